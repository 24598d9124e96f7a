package tests

import (
	"math"
	"math/rand"
	"slices"
	"strings"
	"sync"
	"testing"

	"loop.example/fuzzydictionary/impl"
)

func branch(letter byte, down int, next int, ends bool) impl.Branch {
	return impl.Branch{Letter: letter, Down: down, Next: next, Ends: ends}
}

// beginningsOf returns all beginnings of some words, the empty one included, in ascending order.
func beginningsOf(words []string) []string {
	all := []string{""}
	for _, s := range words {
		for k := range len(s) {
			all = append(all, s[:k+1])
		}
	}
	return plainList(all)
}

// plainTrie makes the nodes of the trie of some texts from the order of their beginnings alone; the texts need not be a valid list.
func plainTrie(words []string) []impl.Branch {
	all := beginningsOf(words)
	nodes := make([]impl.Branch, len(all))
	for k, s := range all {
		nodes[k] = branch(0, -1, -1, slices.Contains(words, s))
		if k+1 < len(all) && strings.HasPrefix(all[k+1], s) {
			nodes[k].Down = k + 1
		}
		if s == "" {
			continue
		}
		parent := s[:len(s)-1]
		nodes[k].Letter = s[len(s)-1]
		for i := k + 1; i < len(all) && strings.HasPrefix(all[i], parent); i++ {
			if len(all[i]) == len(s) {
				nodes[k].Next = i
				break
			}
		}
	}
	return nodes
}

// wideWords returns 60 words of MaxLetters letters that share at most their first letter.
func wideWords() []string {
	var list []string
	for k := range impl.MaxWords {
		list = append(list, string([]byte{byte('a' + k%26), byte('a' + k/26)})+longest[:10])
	}
	return plainList(list)
}

// narrowWords returns 60 words of MaxLetters letters that share all letters but the last two.
func narrowWords() []string {
	list := manyWords(impl.MaxWords)
	for k := range list {
		list[k] = longest[:10] + list[k]
	}
	return list
}

// trieLists returns valid lists whose words share beginnings in many ways.
func trieLists() [][]string {
	lists := append(validListSamples(), wideWords(), narrowWords(), strings.Split("abcdefghijklmnopqrstuvwxyz", ""), beginningsOf([]string{longest})[1:])
	lists = append(lists, [][]string{
		{"b"}, {"aa"}, {"ab", "ac", "b"}, {"a", "ab"}, {"a", "b", "c"}, {"a", "ab", "abc"}, {"a", "abc"}, {"ab", "abcd", "ac"}, {"ab", "b"}, {"a", "ba"},
		{"car", "care", "cart", "cat", "dog", "dot"}, {"cat", "cats", "dog", "dogs"}, {"abc", "abd", "xbc", "xbd"}, {"az", "za", "zz"}, {"z", "za", "zb"},
		{"a", longest}, {longest, "b"}, {"abcdefghijka", "abcdefghijkz"}, {"aaaaaaaaaaaa", "zzzzzzzzzzzz"}, {"aaaaaaaaaaa", "aaaaaaaaaaaa", "aaaaaaaaaab"},
		beginningsOf([]string{longest, "zyxwvutsrqpo", "zyxwvaaaaaaa"})[1:], beginningsOf(wideWords()[:4])[1:],
	}...)
	r := rand.New(rand.NewSource(40))
	short := shortWords("abc", 4)[1:]
	for range 40 {
		words := make([]string, r.Intn(impl.MaxWords+1))
		for k := range words {
			words[k] = short[r.Intn(len(short))]
		}
		lists = append(lists, plainList(words))
	}
	return lists
}

// trieCase is a valid list, all beginnings of its words, and its trie, which is made in a plain way.
type trieCase struct {
	list  []string
	all   []string
	nodes []impl.Branch
}

var trieCases = sync.OnceValue(func() []trieCase {
	var cases []trieCase
	for _, list := range trieLists() {
		cases = append(cases, trieCase{list, beginningsOf(list), plainTrie(list)})
	}
	return cases
})

func mustNodes(t *testing.T, name string, got []impl.Branch, want []impl.Branch) {
	t.Helper()
	if !slices.Equal(got, want) {
		t.Fatalf("%s is %v, not %v", name, got, want)
	}
}

func mustWords(t *testing.T, name string, got []string, want []string) {
	t.Helper()
	if !slices.Equal(got, want) {
		t.Fatalf("%s is %q, not %q", name, got, want)
	}
}

func mustFind(t *testing.T, nodes []impl.Branch, s string, want int) {
	t.Helper()
	if got := impl.TrieFind(nodes, s); got != want {
		t.Fatalf("TrieFind(%v, %q) is %d, not %d", nodes, s, got, want)
	}
}

func mustDepth(t *testing.T, nodes []impl.Branch, want int) {
	t.Helper()
	if got := impl.TrieDepth(nodes); got != want {
		t.Fatalf("TrieDepth(%v) is %d, not %d", nodes, got, want)
	}
}

func mustBeValid(t *testing.T, nodes []impl.Branch, want bool) {
	t.Helper()
	if impl.TrieValid(nodes) != want {
		t.Fatalf("TrieValid(%v) is not %v", nodes, want)
	}
}

// changedNode returns nodes with one of them changed.
func changedNode(nodes []impl.Branch, k int, change func(b *impl.Branch)) []impl.Branch {
	changed := slices.Clone(nodes)
	change(&changed[k])
	return changed
}

// reordered returns the nodes with every number k replaced by to[k], where they are and where they are led to.
func reordered(nodes []impl.Branch, to []int) []impl.Branch {
	moved := make([]impl.Branch, len(nodes))
	for k, b := range nodes {
		if b.Down >= 0 {
			b.Down = to[b.Down]
		}
		if b.Next >= 0 {
			b.Next = to[b.Next]
		}
		moved[to[k]] = b
	}
	return moved
}

// otherLinks returns numbers of nodes that are not the right one, some of which are no numbers of nodes at all.
func otherLinks(size int, right int) []int {
	links := []int{math.MinInt, -1000, math.MaxInt, math.MaxInt32, 1 << 40, 1000}
	for k := -3; k <= size+2; k++ {
		if k != right {
			links = append(links, k)
		}
	}
	return links
}

// otherLetters are bytes that are no letters a to z.
var otherLetters = []byte{0, 1, ' ', '*', '?', '0', '@', 'A', 'Z', '[', '`', '{', 0x7f, 0x80, 0xe1, 0xff}

// brokenLinks returns nodes of a trie one of which leads to another node than it should, or to none.
func brokenLinks(nodes []impl.Branch) [][]impl.Branch {
	var broken [][]impl.Branch
	for k, b := range nodes {
		for _, link := range otherLinks(len(nodes), b.Down) {
			broken = append(broken, changedNode(nodes, k, func(b *impl.Branch) { b.Down = link }))
		}
		for _, link := range otherLinks(len(nodes), b.Next) {
			broken = append(broken, changedNode(nodes, k, func(b *impl.Branch) { b.Next = link }))
		}
	}
	return broken
}

// brokenNodes returns nodes of a trie one of which has a letter that it cannot have, or lacks the end of a word, or nodes of which one is too many or missing.
func brokenNodes(nodes []impl.Branch) [][]impl.Branch {
	broken := [][]impl.Branch{changedNode(nodes, 0, func(b *impl.Branch) { b.Ends = true })}
	for _, letter := range append([]byte("abz"), otherLetters[1:]...) {
		broken = append(broken, changedNode(nodes, 0, func(b *impl.Branch) { b.Letter = letter }))
	}
	for k, b := range nodes[1:] {
		for _, letter := range otherLetters {
			broken = append(broken, changedNode(nodes, k+1, func(b *impl.Branch) { b.Letter = letter }))
		}
		if b.Down < 0 {
			broken = append(broken, changedNode(nodes, k+1, func(b *impl.Branch) { b.Ends = false }))
		}
		if b.Next >= 0 {
			after := nodes[b.Next].Letter
			broken = append(broken, changedNode(nodes, k+1, func(b *impl.Branch) { b.Letter = after }), changedNode(nodes, b.Next, func(after *impl.Branch) { after.Letter = b.Letter }))
			broken = append(broken, changedNode(changedNode(nodes, b.Next, func(after *impl.Branch) { after.Letter = b.Letter }), k+1, func(b *impl.Branch) { b.Letter = after }))
		}
	}
	for k, b := range nodes {
		broken = append(broken, slices.Insert(slices.Clone(nodes), k, b))
		// Without a node that leads to one other node, the rest can be the trie of another list.
		if k == 0 || (b.Down < 0) == (b.Next < 0) {
			broken = append(broken, slices.Delete(slices.Clone(nodes), k, k+1))
		}
	}
	return append(broken, append(slices.Clone(nodes), branch('z', -1, -1, true)), append(slices.Clone(nodes), branch(0, -1, -1, false)), slices.Concat(nodes, nodes))
}

// brokenOrders returns the nodes of a trie in other orders.
func brokenOrders(nodes []impl.Branch) [][]impl.Branch {
	var broken [][]impl.Branch
	to := make([]int, len(nodes))
	for i := range nodes {
		for j := range i {
			for k := range to {
				to[k] = k
			}
			to[i], to[j] = j, i
			broken = append(broken, reordered(nodes, to))
		}
	}
	r := rand.New(rand.NewSource(42))
	for range 5 {
		if to := r.Perm(len(nodes)); !slices.IsSorted(to) {
			broken = append(broken, reordered(nodes, to))
		}
	}
	return broken
}

// triesOfNoLists returns what would be the tries of words that are no valid list.
func triesOfNoLists() [][]impl.Branch {
	full := slices.Concat(wideWords(), []string{"zzzzzzzzzzzz"})
	more := slices.Concat(full, []string{"zyxwvutsrqpo", "yyxwvutsrqpo", "xyxwvutsrqpo", "wyxwvutsrqpo", "vyxwvutsrqpo", "uyxwvutsrqpo", "tyxwvutsrqpo", "syxwvutsrqpo", "ryxwvutsrqpo", "qyxwvutsrqpo", "pyxwvutsrqpo", "oyxwvutsrqpo"})
	tries := [][]impl.Branch{
		plainTrie(manyWords(61)), plainTrie(manyWords(200)), plainTrie(full), plainTrie(more),
		plainTrie([]string{""}), plainTrie([]string{"", "a"}), plainTrie([]string{"", "a", "ab"}), plainTrie([]string{strings.Repeat("a", 799)}), plainTrie([]string{strings.Repeat("a", 800)}),
	}
	for _, bad := range badWords {
		tries = append(tries, plainTrie([]string{bad}), plainTrie([]string{"a", bad}), plainTrie([]string{"cat", bad, "dog"}))
	}
	for _, list := range [][]string{{tooLong}, {longest, tooLong}, {longest[:11], "zabcdefghijkl"}, {"b", "bbbbbbbbbbbbb"}} {
		tries = append(tries, plainTrie(list))
	}
	return tries
}

// longWay returns nodes each of which has the next one as its only child.
func longWay(many int) []impl.Branch {
	nodes := make([]impl.Branch, many)
	for k := range nodes {
		nodes[k] = branch('a', k+1, -1, false)
	}
	nodes[0].Letter = 0
	nodes[many-1] = branch('a', -1, -1, true)
	return nodes
}

var brokenTries = sync.OnceValue(func() [][]impl.Branch {
	broken := [][]impl.Branch{
		nil, {}, {branch(0, 0, 0, false)}, {branch(0, 0, -1, false)}, {branch(0, -1, 0, false)}, {branch('a', -1, -1, true)}, {branch(0, -1, -1, true)}, {branch(0, 1, -1, false)},
		{branch(0, -1, -1, false), branch(0, -1, -1, false)}, {branch(0, -1, -1, false), branch('a', -1, -1, true)}, {branch(0, -1, 1, false), branch('a', -1, -1, true)},
		{branch(0, 1, -1, false), branch('a', -1, -1, false)}, {branch(0, 1, -1, false), branch('a', 0, -1, true)}, {branch(0, 1, -1, false), branch('a', 1, -1, true)}, {branch(0, 1, -1, false), branch('a', -1, 1, true)},
		{branch(0, 1, -1, false), branch('a', 2, 2, true), branch('b', -1, -1, true)}, {branch(0, 1, -1, false), branch('a', 2, -1, true), branch('b', 1, -1, true)}, {branch(0, 1, -1, false), branch('a', -1, 2, true), branch('b', -1, 1, true)},
		{branch(0, 2, -1, false), branch('b', -1, -1, true), branch('a', -1, 1, true)}, {branch(0, 1, -1, false), branch('b', -1, 2, true), branch('a', -1, -1, true)}, {branch(0, 1, -1, false), branch('a', -1, 2, true), branch('a', -1, -1, true)},
		longWay(impl.MaxBranches), longWay(impl.MaxBranches + 1), longWay(100000), make([]impl.Branch, 3), make([]impl.Branch, impl.MaxBranches), make([]impl.Branch, impl.MaxBranches+1), make([]impl.Branch, 100000),
	}
	broken = append(broken, triesOfNoLists()...)
	for _, list := range [][]string{nil, {"a"}, {"z"}, {"ab", "ac", "b"}, {"a", "ab"}, {"a", "b", "c"}, {"a", "ba"}, {"car", "care", "cart", "cat", "dog"}, {longest}, {"abc", "abd", "xbc", "xbd"}} {
		nodes := plainTrie(list)
		broken = slices.Concat(broken, brokenLinks(nodes), brokenNodes(nodes), brokenOrders(nodes))
	}
	for _, list := range [][]string{wideWords(), narrowWords(), manyWords(60)} {
		nodes := plainTrie(list)
		last := len(nodes) - 1
		broken = append(broken, nodes[:last], nodes[1:], slices.Concat(nodes, nodes[last:]), changedNode(nodes, last, func(b *impl.Branch) { b.Next = 1 }), changedNode(nodes, last/2, func(b *impl.Branch) { b.Down = 0 }))
	}
	return broken
})

func TestP40TriesOfSomeLists(t *testing.T) {
	for _, x := range []struct {
		list  []string
		nodes []impl.Branch
	}{
		{nil, []impl.Branch{branch(0, -1, -1, false)}},
		{[]string{}, []impl.Branch{branch(0, -1, -1, false)}},
		{[]string{"a"}, []impl.Branch{branch(0, 1, -1, false), branch('a', -1, -1, true)}},
		{[]string{"z"}, []impl.Branch{branch(0, 1, -1, false), branch('z', -1, -1, true)}},
		{[]string{"ab"}, []impl.Branch{branch(0, 1, -1, false), branch('a', 2, -1, false), branch('b', -1, -1, true)}},
		{[]string{"a", "ab"}, []impl.Branch{branch(0, 1, -1, false), branch('a', 2, -1, true), branch('b', -1, -1, true)}},
		{[]string{"a", "b"}, []impl.Branch{branch(0, 1, -1, false), branch('a', -1, 2, true), branch('b', -1, -1, true)}},
		{[]string{"aa", "b"}, []impl.Branch{branch(0, 1, -1, false), branch('a', 2, 3, false), branch('a', -1, -1, true), branch('b', -1, -1, true)}},
		{[]string{"ab", "ac", "b"}, []impl.Branch{branch(0, 1, -1, false), branch('a', 2, 4, false), branch('b', -1, 3, true), branch('c', -1, -1, true), branch('b', -1, -1, true)}},
		{[]string{"a", "abc", "ad", "b", "ca"}, []impl.Branch{
			branch(0, 1, -1, false), branch('a', 2, 5, true), branch('b', 3, 4, false), branch('c', -1, -1, true), branch('d', -1, -1, true), branch('b', -1, 6, true), branch('c', 7, -1, false), branch('a', -1, -1, true),
		}},
		{[]string{"cat", "cats", "dog"}, []impl.Branch{
			branch(0, 1, -1, false), branch('c', 2, 5, false), branch('a', 3, -1, false), branch('t', 4, -1, true), branch('s', -1, -1, true), branch('d', 6, -1, false), branch('o', 7, -1, false), branch('g', -1, -1, true),
		}},
	} {
		mustNodes(t, "a trie", impl.BuildTrie(x.list), x.nodes)
		mustNodes(t, "the plain trie", plainTrie(x.list), x.nodes)
	}
}

func TestP40TriesHaveTheWords(t *testing.T) {
	for _, c := range trieCases() {
		nodes := impl.BuildTrie(c.list)
		mustNodes(t, "the trie of "+strings.Join(c.list, " "), nodes, c.nodes)
		mustWords(t, "what the trie has", impl.TrieWords(nodes), c.list)
		mustBeValid(t, nodes, true)
		if len(nodes) != len(c.all) || len(nodes) > impl.MaxBranches {
			t.Fatalf("the trie of %q has %d nodes", c.list, len(nodes))
		}
	}
}

func TestP40TriesOfAllListsOfSmallWords(t *testing.T) {
	eachSmallList(3, func(list []string) {
		nodes := impl.BuildTrie(list)
		if len(list) <= 4 || len(list) == 14 {
			mustNodes(t, "the trie of "+strings.Join(list, " "), nodes, plainTrie(list))
		}
		mustWords(t, "what the trie has", impl.TrieWords(nodes), list)
	})
}

// eachSmallList calls a function with every list of words of at most most letters a and b.
func eachSmallList(most int, call func(list []string)) {
	words := shortWords("ab", most)[1:]
	for in := range 1 << len(words) {
		var list []string
		for k, s := range words {
			if in>>k&1 == 1 {
				list = append(list, s)
			}
		}
		call(list)
	}
}

func TestP40NumbersOfNodes(t *testing.T) {
	for _, x := range []struct {
		list []string
		many int
	}{
		{nil, 1}, {[]string{"a"}, 2}, {[]string{longest}, 13}, {beginningsOf([]string{longest})[1:], 13}, {[]string{"aaaaaaaaaaaa", "zzzzzzzzzzzz"}, 25},
		{[]string{"abcdefghijka", "abcdefghijkz"}, 14}, {manyWords(60), 64}, {narrowWords(), 74}, {wideWords(), 687}, {strings.Split("abcdefghijklmnopqrstuvwxyz", ""), 27},
	} {
		if nodes := impl.BuildTrie(x.list); len(nodes) != x.many || !impl.TrieValid(nodes) {
			t.Fatalf("the trie of %q has %d nodes, not %d", x.list, len(nodes), x.many)
		}
	}
	if impl.MaxBranches != 800 {
		t.Fatal(impl.MaxBranches)
	}
}

func TestP40OtherListsHaveNoTrie(t *testing.T) {
	more := append(wideWords(), "zzzzzzzzzzzz")
	for _, list := range append(brokenLists(), more, manyWords(100), []string{longest, tooLong}, []string{"a", "ab", "ab"}, []string{"ab", "a"}, []string{"cats", "cat"}) {
		if nodes := impl.BuildTrie(list); len(nodes) != 0 {
			t.Fatalf("BuildTrie(%q) is %v", list, nodes)
		}
	}
}

func spoilNodes(nodes []impl.Branch) {
	nodes = nodes[:cap(nodes)]
	for k := range nodes {
		nodes[k] = branch('?', 7, 7, true)
	}
}

func spoilWords(words []string) {
	words = words[:cap(words)]
	for k := range words {
		words[k] = "spoilt"
	}
}

func TestP40TriesAreNew(t *testing.T) {
	for _, list := range append(keptLists(), []string{"a", "ab", "ac"}, wideWords()) {
		mustKeep(t, list, func(list []string) {
			got, again := impl.BuildTrie(list), impl.BuildTrie(list)
			want := slices.Clone(got)
			spoilNodes(got)
			mustNodes(t, "a second trie", again, want)
		})
		room := slices.Concat(list, []string{"behind"})
		nodes := impl.BuildTrie(room[:len(list)])
		want := slices.Clone(nodes)
		spoilWords(room)
		mustNodes(t, "the trie of a list that was spoilt", nodes, want)
	}
}

// mustKeepNodes runs a call and fails if it wrote to the nodes, or behind them.
func mustKeepNodes(t *testing.T, nodes []impl.Branch, call func(nodes []impl.Branch)) {
	t.Helper()
	room := append(slices.Clone(nodes), branch('x', 1, 2, true), branch('y', 3, 4, false))
	before := slices.Clone(room)
	call(room[:len(nodes)])
	mustNodes(t, "an argument that was kept", room, before)
}

// keptTries returns tries, valid ones and others.
func keptTries() [][]impl.Branch {
	var tries [][]impl.Branch
	for _, c := range trieCases() {
		tries = append(tries, c.nodes)
	}
	for k, nodes := range brokenTries() {
		if k%10 == 0 {
			tries = append(tries, nodes)
		}
	}
	return tries
}

func TestP41WordsAreNew(t *testing.T) {
	for _, nodes := range keptTries() {
		mustKeepNodes(t, nodes, func(nodes []impl.Branch) {
			got, again := impl.TrieWords(nodes), impl.TrieWords(nodes)
			want := slices.Clone(got)
			spoilWords(got)
			mustWords(t, "the words of a trie", again, want)
		})
		room := slices.Clone(nodes)
		words := impl.TrieWords(room)
		want := slices.Clone(words)
		spoilNodes(room)
		mustWords(t, "the words of a trie that was spoilt", words, want)
	}
}

func TestP41WordsOfTriesMakeTheTrie(t *testing.T) {
	for _, c := range trieCases() {
		words := impl.TrieWords(c.nodes)
		mustWords(t, "what the plain trie has", words, c.list)
		mustNodes(t, "the trie of the words", impl.BuildTrie(words), c.nodes)
	}
}

func TestP41WordsOfSomeTries(t *testing.T) {
	root := branch(0, 1, -1, false)
	for _, x := range []struct {
		nodes []impl.Branch
		words []string
	}{
		{[]impl.Branch{branch(0, -1, -1, false)}, nil},
		{[]impl.Branch{root, branch('q', -1, -1, true)}, []string{"q"}},
		{[]impl.Branch{root, branch('q', 2, -1, false), branch('q', -1, -1, true)}, []string{"qq"}},
		{[]impl.Branch{root, branch('q', 2, -1, true), branch('q', -1, -1, true)}, []string{"q", "qq"}},
		{[]impl.Branch{root, branch('p', -1, 2, true), branch('q', -1, -1, true)}, []string{"p", "q"}},
		{[]impl.Branch{root, branch('p', 2, 4, false), branch('e', -1, 3, true), branch('o', -1, -1, true), branch('q', -1, -1, true)}, []string{"pe", "po", "q"}},
		{[]impl.Branch{root, branch('p', 2, 4, true), branch('e', 3, -1, true), branch('n', -1, -1, true), branch('q', 5, -1, true), branch('a', -1, 6, true), branch('z', -1, -1, true)}, []string{"p", "pe", "pen", "q", "qa", "qz"}},
	} {
		mustWords(t, "what a trie has", impl.TrieWords(x.nodes), x.words)
		mustNodes(t, "the trie of its words", impl.BuildTrie(x.words), x.nodes)
	}
}

func TestP41OtherTriesHaveNoWords(t *testing.T) {
	for _, nodes := range brokenTries() {
		if words := impl.TrieWords(nodes); len(words) != 0 {
			t.Fatalf("TrieWords(%v) is %q", nodes, words)
		}
	}
}

func TestP42LastNodesEndWords(t *testing.T) {
	for _, c := range trieCases() {
		mustBeValid(t, c.nodes, true)
		last := len(c.nodes) - 1
		if last == 0 {
			continue
		}
		mustBeValid(t, changedNode(c.nodes, last, func(b *impl.Branch) { b.Letter -= 'a' - 'A' }), false)
		mustBeValid(t, changedNode(c.nodes, last, func(b *impl.Branch) { b.Ends = false }), false)
	}
}

func TestP42OtherNodesAreInvalid(t *testing.T) {
	for _, nodes := range brokenTries() {
		mustBeValid(t, nodes, false)
	}
}

func TestP42LinksOfAllTries(t *testing.T) {
	r := rand.New(rand.NewSource(421))
	for _, c := range trieCases() {
		for range 20 {
			k, link := r.Intn(len(c.nodes)), r.Intn(len(c.nodes)+2)-1
			if link != c.nodes[k].Down {
				mustBeValid(t, changedNode(c.nodes, k, func(b *impl.Branch) { b.Down = link }), false)
			}
			if link != c.nodes[k].Next {
				mustBeValid(t, changedNode(c.nodes, k, func(b *impl.Branch) { b.Next = link }), false)
			}
		}
	}
}

// eachWord returns the words with every one replaced by what a function makes of it.
func eachWord(words []string, change func(s string) string) []string {
	changed := make([]string, len(words))
	for k, s := range words {
		changed[k] = change(s)
	}
	return changed
}

// With another letter nodes are a trie exactly if the letters of the children of its parent still ascend; then every word with it has the other one.
func TestP42OtherLettersInOrder(t *testing.T) {
	for _, list := range [][]string{{"m"}, {"b", "y"}, {"ba", "bc", "bz", "d"}, {"a", "abc", "ad", "c"}, {"cat", "cats", "dog"}} {
		all, nodes := beginningsOf(list), plainTrie(list)
		for k := range nodes[1:] {
			k++
			for c := range 256 {
				at := len(all[k]) - 1
				other := all[k][:at] + string([]byte{byte(c)})
				words := eachWord(list, func(s string) string {
					if strings.HasPrefix(s, all[k]) {
						return other + s[at+1:]
					}
					return s
				})
				inOrder := 'a' <= c && c <= 'z' && slices.IsSorted(words) && (byte(c) == nodes[k].Letter || !slices.Contains(all, other))
				changed := changedNode(nodes, k, func(b *impl.Branch) { b.Letter = byte(c) })
				mustBeValid(t, changed, inOrder)
				if inOrder {
					mustWords(t, "what the trie with another letter has", impl.TrieWords(changed), words)
				}
			}
		}
	}
}

// Where a word ends, another one may go on; where none goes on, one has to end.
func TestP42OtherEnds(t *testing.T) {
	for _, c := range trieCases() {
		for k, b := range c.nodes {
			changed := changedNode(c.nodes, k, func(b *impl.Branch) { b.Ends = !b.Ends })
			valid := k > 0 && b.Down >= 0 && (b.Ends || len(c.list) < impl.MaxWords)
			mustBeValid(t, changed, valid)
			var words []string
			if valid && b.Ends {
				words = slices.DeleteFunc(slices.Clone(c.list), func(s string) bool { return s == c.all[k] })
			} else if valid {
				words = plainList(append(slices.Clone(c.list), c.all[k]))
			}
			mustWords(t, "what the trie with another end has", impl.TrieWords(changed), words)
		}
	}
}

// checkNodes holds what is said of nodes against each other, and against the plain trie of the words that they are said to have; it reports whether they are valid.
func checkNodes(t *testing.T, nodes []impl.Branch) bool {
	t.Helper()
	words, valid := impl.TrieWords(nodes), impl.TrieValid(nodes)
	if !valid {
		mustWords(t, "what other nodes have", words, nil)
		mustDepth(t, nodes, -1)
		mustFind(t, nodes, "", -1)
		return false
	}
	if !impl.ListValid(words) {
		t.Fatalf("TrieWords(%v) is %q", nodes, words)
	}
	mustNodes(t, "what has valid words", nodes, plainTrie(words))
	mustFind(t, nodes, "", 0)
	return true
}

// eachNode calls a function with every node with one of some letters and numbers.
func eachNode(letters string, downs []int, nexts []int, call func(b impl.Branch)) {
	for k := range len(letters) {
		for _, down := range downs {
			for _, next := range nexts {
				call(branch(letters[k], down, next, false))
				call(branch(letters[k], down, next, true))
			}
		}
	}
}

// Every valid trie is that of a list, and there are as many of them as lists, so all tries of lists are among them.
func TestP42SmallTriesAreThoseOfLists(t *testing.T) {
	want := map[int]int{}
	eachSmallList(3, func(list []string) { want[len(beginningsOf(list))]++ })
	got := map[int]int{}
	count := func(nodes ...impl.Branch) {
		if checkNodes(t, nodes) {
			got[len(nodes)]++
		}
	}
	numbers := []int{-1, 0, 1, 2, 3}
	eachNode("\x00ab", numbers[:4], numbers[:4], func(one impl.Branch) {
		count(one)
		eachNode("\x00ab", numbers[:4], numbers[:4], func(two impl.Branch) { count(one, two) })
	})
	eachNode("\x00ab", numbers, numbers, func(two impl.Branch) {
		eachNode("\x00ab", numbers, numbers, func(three impl.Branch) {
			count(branch(0, 1, -1, false), two, three)
			count(branch(0, 2, -1, false), two, three)
		})
	})
	eachNode("ab", []int{-1, 2, 3}, []int{-1, 2, 3}, func(two impl.Branch) {
		eachNode("ab", []int{-1, 1, 3}, []int{-1, 1, 3}, func(three impl.Branch) {
			eachNode("ab", []int{-1, 1, 2}, []int{-1, 1, 2}, func(four impl.Branch) { count(branch(0, 1, -1, false), two, three, four) })
		})
	})
	for size := 1; size <= 4; size++ {
		if got[size] != want[size] || want[size] == 0 {
			t.Fatalf("there are %d tries of %d nodes, not %d", got[size], size, want[size])
		}
	}
}

func TestP42NodesAtRandom(t *testing.T) {
	r := rand.New(rand.NewSource(422))
	for range 30000 {
		nodes := make([]impl.Branch, 1+r.Intn(20))
		for k := range nodes {
			nodes[k] = branch(byte('a'+r.Intn(26)), r.Intn(len(nodes)+2)-1, r.Intn(len(nodes)+2)-1, r.Intn(2) == 0)
			if r.Intn(2) == 0 {
				nodes[k].Down = k + 1
			}
			if r.Intn(3) > 0 {
				nodes[k].Next = -1
			}
		}
		nodes[0] = branch(0, min(1, len(nodes)-1), -1, false)
		nodes[len(nodes)-1].Down = -1
		checkNodes(t, nodes)
	}
}

func TestP42TriesAreKept(t *testing.T) {
	for _, nodes := range keptTries() {
		mustKeepNodes(t, nodes, func(nodes []impl.Branch) {
			impl.TrieValid(nodes)
			impl.TrieDepth(nodes)
			impl.TrieFind(nodes, "")
			impl.TrieFind(nodes, "a")
			impl.TrieFind(nodes, longest)
		})
	}
}

func TestP43NodesOfSomeWords(t *testing.T) {
	cats := []string{"car", "care", "cart", "cat", "dog"}
	for _, x := range []struct {
		list []string
		s    string
		node int
	}{
		{nil, "", 0}, {nil, "a", -1}, {nil, "z", -1}, {nil, longest, -1}, {[]string{"a"}, "", 0}, {[]string{"a"}, "a", 1}, {[]string{"a"}, "b", -1}, {[]string{"a"}, "aa", -1},
		{[]string{"ab", "ac", "b"}, "ac", 3}, {[]string{"ab", "ac", "b"}, "a", 1}, {[]string{"ab", "ac", "b"}, "b", 4}, {[]string{"ab", "ac", "b"}, "c", -1}, {[]string{"ab", "ac", "b"}, "bc", -1}, {[]string{"ab", "ac", "b"}, "ad", -1}, {[]string{"ab", "ac", "b"}, "aa", -1},
		{cats, "", 0}, {cats, "c", 1}, {cats, "ca", 2}, {cats, "car", 3}, {cats, "care", 4}, {cats, "cart", 5}, {cats, "cat", 6}, {cats, "d", 7}, {cats, "do", 8}, {cats, "dog", 9},
		{cats, "a", -1}, {cats, "e", -1}, {cats, "b", -1}, {cats, "ar", -1}, {cats, "og", -1}, {cats, "co", -1}, {cats, "da", -1}, {cats, "caa", -1}, {cats, "cas", -1}, {cats, "cau", -1}, {cats, "cat" + "s", -1}, {cats, "cares", -1}, {cats, "carts", -1}, {cats, "dogs", -1}, {cats, "cact", -1},
		{[]string{longest}, longest, 12}, {[]string{longest}, longest[:11], 11}, {[]string{longest}, "a", 1}, {[]string{longest}, longest[1:], -1}, {[]string{longest}, tooLong, -1},
		{wideWords(), wideWords()[59], 686}, {narrowWords(), narrowWords()[59], 73}, {manyWords(60), "ch", 63}, {manyWords(60), "ci", -1},
	} {
		mustFind(t, impl.BuildTrie(x.list), x.s, x.node)
	}
}

func TestP43NodesAreBeginnings(t *testing.T) {
	for _, c := range trieCases() {
		nodeOf := map[string]int{}
		for k, s := range c.all {
			nodeOf[s] = impl.TrieFind(c.nodes, s)
			if nodeOf[s] != k {
				t.Fatalf("TrieFind of %q in the trie of %q is %d, not %d", s, c.list, nodeOf[s], k)
			}
			if c.nodes[k].Ends != slices.Contains(c.list, s) {
				t.Fatalf("whether %q is in %q is not said by its node", s, c.list)
			}
			if s != "" && nodeOf[s[:len(s)-1]] >= nodeOf[s] {
				t.Fatalf("the node of what is before the last letter of %q is not before its own", s)
			}
		}
	}
}

// wordsAbout returns texts that are near to the words of a list, or none.
func wordsAbout(r *rand.Rand, list []string) []string {
	about := slices.Concat([]string{"", "a", "b", "z", "ab", longest}, badWords)
	for range 20 {
		about = append(about, randomWord(r, 0, impl.MaxLetters))
		if len(list) > 0 {
			s := list[r.Intn(len(list))]
			about = append(about, damaged(r, s), s+"a", s+"\x00", s+"A", "\x00"+s, s[1:], strings.ToUpper(s))
		}
	}
	return about
}

func TestP43OtherWordsHaveNoNode(t *testing.T) {
	r := rand.New(rand.NewSource(43))
	for _, c := range trieCases() {
		for _, s := range wordsAbout(r, c.list) {
			mustFind(t, c.nodes, s, slices.Index(c.all, s))
		}
	}
}

func TestP43AllSmallWords(t *testing.T) {
	words := shortWords("ab", 3)
	eachSmallList(2, func(list []string) {
		nodes, all := impl.BuildTrie(list), beginningsOf(list)
		for _, s := range words {
			node := impl.TrieFind(nodes, s)
			if node != slices.Index(all, s) || slices.Contains(list, s) != (node >= 0 && nodes[node].Ends) {
				t.Fatalf("TrieFind of %q in %q is %d", s, list, node)
			}
		}
	})
}

func TestP43NothingIsFoundInOtherTries(t *testing.T) {
	for _, nodes := range brokenTries() {
		for _, s := range []string{"", "a", "b", "ab", "c", "ca", "z", longest, "A", "\x00", tooLong} {
			mustFind(t, nodes, s, -1)
		}
	}
}

func TestP44DepthsOfSomeTries(t *testing.T) {
	for _, x := range []struct {
		list  []string
		depth int
	}{
		{nil, 0}, {[]string{}, 0}, {[]string{"a"}, 1}, {[]string{"a", "b", "z"}, 1}, {[]string{"ab"}, 2}, {[]string{"a", "ab"}, 2}, {[]string{"ab", "b"}, 2}, {[]string{"a", "bb"}, 2}, {[]string{"a", "bcd", "ef"}, 3},
		{[]string{"abcde", "b"}, 5}, {[]string{"a", "b", "stones", "word"}, 6}, {[]string{longest}, 12}, {[]string{longest[:11]}, 11}, {[]string{"a", longest}, 12}, {[]string{longest, "b"}, 12}, {beginningsOf([]string{longest})[1:], 12},
		{manyWords(60), 2}, {wideWords(), 12}, {narrowWords(), 12},
	} {
		mustDepth(t, impl.BuildTrie(x.list), x.depth)
	}
}

func TestP44DepthsAreLengthsOfWords(t *testing.T) {
	for _, c := range trieCases() {
		longer, reached := false, len(c.list) == 0
		depth := impl.TrieDepth(c.nodes)
		for _, s := range c.list {
			longer = longer || len(s) > depth
			reached = reached || len(s) == depth
		}
		if longer || !reached || len(c.list) == 0 && depth != 0 {
			t.Fatalf("the depth of the trie of %q is %d", c.list, depth)
		}
	}
}

func TestP44OtherTriesHaveNoDepth(t *testing.T) {
	for _, nodes := range brokenTries() {
		mustDepth(t, nodes, -1)
	}
}

func TestP119PartsNeedNotMoreNodes(t *testing.T) {
	r := rand.New(rand.NewSource(119))
	for _, c := range trieCases() {
		many := len(impl.BuildTrie(c.list))
		check := func(part []string) {
			t.Helper()
			if nodes := impl.BuildTrie(part); len(nodes) > many || len(nodes) != len(beginningsOf(part)) {
				t.Fatalf("the trie of %q has %d nodes, that of the whole list %d", part, len(nodes), many)
			}
		}
		check(slices.DeleteFunc(slices.Clone(c.list), func(string) bool { return r.Intn(2) == 0 }))
		check(slices.DeleteFunc(slices.Clone(c.list), func(string) bool { return r.Intn(8) > 0 }))
		for k := range c.list {
			check(c.list[:k])
			check(c.list[k:])
			check(slices.Delete(slices.Clone(c.list), k, k+1))
		}
	}
}

// With a beginning more only the end of a word is put in.
func TestP119BeginningsNeedNoNodes(t *testing.T) {
	for _, c := range trieCases() {
		if len(c.list) == impl.MaxWords {
			continue
		}
		for k, s := range c.all[1:] {
			nodes := impl.BuildTrie(plainList(append(slices.Clone(c.list), s)))
			mustNodes(t, "the trie with "+s, nodes, changedNode(c.nodes, k+1, func(b *impl.Branch) { b.Ends = true }))
		}
	}
}

func TestP119WordsThatNeedNodes(t *testing.T) {
	list := []string{"car", "cart", "dog"}
	for _, x := range []struct {
		word string
		more int
	}{
		{"c", 0}, {"ca", 0}, {"do", 0}, {"car", 0}, {"dog", 0}, {"cat", 1}, {"carts", 1}, {"a", 1}, {"z", 1}, {"care", 1}, {"dogma", 2}, {"cut", 2}, {"abc", 3}, {longest, 12}, {"cartographer", 8}, {"og", 2},
	} {
		if many := len(impl.BuildTrie(impl.ListOf(append(slices.Clone(list), x.word)))); many != 8+x.more {
			t.Fatalf("with %q there are %d nodes", x.word, many)
		}
	}
}

// A beginning more than a list can have, or one at the wrong place, leaves no list and so no nodes at all.
func TestP119BeginningsOutsideOfLists(t *testing.T) {
	for _, list := range [][]string{append([]string{"a"}, manyWords(60)...), append(manyWords(60), "ch"), {"ab", "a"}, {"", "a"}, {"a", "a", "ab"}} {
		mustNodes(t, "what no list needs", impl.BuildTrie(list), nil)
	}
}

func TestP120BeginningsAreInTheTrie(t *testing.T) {
	for _, c := range trieCases() {
		nodes := impl.BuildTrie(c.list)
		for _, s := range impl.TrieWords(nodes) {
			before := -1
			for k := 0; k <= len(s); k++ {
				node := impl.TrieFind(nodes, s[:k])
				if node <= before || node >= len(nodes) || k == 0 && node != 0 || k > 0 && nodes[node].Letter != s[k-1] {
					t.Fatalf("TrieFind of %q in the trie of %q is %d, behind %d", s[:k], c.list, node, before)
				}
				before = node
			}
			if !nodes[before].Ends {
				t.Fatalf("%q does not end in the trie of %q", s, c.list)
			}
		}
	}
}

func TestP120EveryNodeIsABeginning(t *testing.T) {
	for _, c := range trieCases() {
		nodes := impl.BuildTrie(c.list)
		found := make([]bool, len(nodes))
		for _, s := range c.all {
			found[impl.TrieFind(nodes, s)] = true
		}
		if slices.Contains(found, false) {
			t.Fatalf("no beginning leads to some node of the trie of %q", c.list)
		}
	}
}

func TestP120OtherTriesHaveNoBeginnings(t *testing.T) {
	nodes := plainTrie([]string{"car", "care", "cart", "cat", "dog"})
	for _, other := range slices.Concat(brokenLinks(nodes), brokenNodes(nodes), brokenOrders(nodes)) {
		for _, s := range beginningsOf([]string{"care", "dog"}) {
			mustFind(t, other, s, -1)
		}
	}
}
