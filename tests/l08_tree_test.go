package tests

import (
	"math"
	"slices"
	"strings"
	"testing"
	"unsafe"

	"loop.example/g00379/impl"
)

func element(parent int64, name string, pairs ...string) impl.Node {
	return impl.Node{Parent: parent, Name: name, Attrs: attrs(pairs...)}
}

func textNode(parent int64, s string) impl.Node { return impl.Node{Parent: parent, Text: s} }

// sameNode holds that an empty list and nil are the same.
func sameNode(a, b impl.Node) bool {
	return a.Parent == b.Parent && a.Name == b.Name && a.Text == b.Text && slices.Equal(a.Attrs, b.Attrs)
}

func sameTree(a, b []impl.Node) bool { return slices.EqualFunc(a, b, sameNode) }

func expectedElement(n impl.Node) bool {
	return expectedTokenOk(impl.Token{Kind: 1, Name: n.Name, Attrs: n.Attrs, Text: n.Text})
}

func expectedText(n impl.Node) bool {
	return expectedTokenOk(impl.Token{Kind: 3, Name: n.Name, Attrs: n.Attrs, Text: n.Text})
}

// expectedKids asks each Node for its Parent.
func expectedKids(t []impl.Node, at int64) []int64 {
	var kids []int64
	for i, n := range t {
		if n.Parent == at {
			kids = append(kids, int64(i))
		}
	}
	return kids
}

// expectedSize counts the Nodes that a Node and all in it are.
func expectedSize(t []impl.Node, at int64) int64 {
	size := int64(1)
	for _, kid := range expectedKids(t, at) {
		size += expectedSize(t, kid)
	}
	return size
}

func expectedDepth(t []impl.Node, at int64) int {
	if at < 0 {
		return 0
	}
	return 1 + expectedDepth(t, t[at].Parent)
}

func expectedParents(t []impl.Node) bool {
	for i, n := range t {
		if !expectedElement(n) && !expectedText(n) {
			return false
		}
		if i == 0 && (n.Parent != -1 || !expectedElement(n)) {
			return false
		}
		if i > 0 && (n.Parent < 0 || n.Parent >= int64(i) || !expectedElement(t[n.Parent])) {
			return false
		}
	}
	return true
}

// expectedSisters asks, kid by kid, for the place and for two texts side by side.
func expectedSisters(t []impl.Node, at int64) bool {
	place, afterText := at+1, false
	for _, kid := range expectedKids(t, at) {
		if kid != place || afterText && expectedText(t[kid]) {
			return false
		}
		place, afterText = kid+expectedSize(t, kid), expectedText(t[kid])
	}
	return true
}

func expectedTreeOk(t []impl.Node) bool {
	if len(t) < 1 || len(t) > 50 || !expectedParents(t) {
		return false
	}
	for i := range t {
		if expectedDepth(t, int64(i)) > 9 || !expectedSisters(t, int64(i)) {
			return false
		}
	}
	return true
}

func expectedTokensFrom(t []impl.Node, at int64) []impl.Token {
	n := t[at]
	if expectedText(n) {
		return []impl.Token{text(n.Text)}
	}
	list := []impl.Token{{Kind: 1, Name: n.Name, Attrs: n.Attrs}}
	for _, kid := range expectedKids(t, at) {
		list = append(list, expectedTokensFrom(t, kid)...)
	}
	return append(list, closed(n.Name))
}

// expectedGrowth reads what one element has, and tells what is left behind its close.
func expectedGrowth(t []impl.Node, at int64, list []impl.Token) ([]impl.Node, []impl.Token, bool) {
	for len(list) > 0 {
		first := list[0]
		list = list[1:]
		if first.Kind == 2 {
			return t, list, first.Name == t[at].Name
		}
		t = append(t, impl.Node{Parent: at, Name: first.Name, Attrs: first.Attrs, Text: first.Text})
		if first.Kind == 1 {
			ok := false
			t, list, ok = expectedGrowth(t, int64(len(t))-1, list)
			if !ok {
				return t, list, false
			}
		}
	}
	return t, list, false
}

func expectedGrown(list []impl.Token) ([]impl.Node, bool) {
	if len(list) == 0 || !allTokens(list, expectedTokenOk) || list[0].Kind != 1 {
		return nil, false
	}
	t, rest, ok := expectedGrowth([]impl.Node{{Parent: -1, Name: list[0].Name, Attrs: list[0].Attrs}}, 0, list[1:])
	if !ok || len(rest) > 0 || !expectedTreeOk(t) {
		return nil, false
	}
	return t, true
}

func expectedTextIn(t []impl.Node, at int64) string {
	out := ""
	for _, kid := range expectedKids(t, at) {
		out += t[kid].Text
	}
	return out
}

// checkNodes asks about each Node there, and about some that are not.
func checkNodes(t *testing.T, nodes []impl.Node, right bool) {
	t.Helper()
	for at := int64(-2); at <= int64(len(nodes))+1; at++ {
		if right && at >= 0 && at < int64(len(nodes)) {
			end, kids, text := impl.EndOf(nodes, at), impl.KidsOf(nodes, at), impl.TextIn(nodes, at)
			if end != at+expectedSize(nodes, at) || !slices.Equal(kids, expectedKids(nodes, at)) || text != expectedTextIn(nodes, at) {
				t.Errorf("of %+v, %d: EndOf %d, KidsOf %v, TextIn %q", nodes, at, end, kids, text)
			}
		} else {
			wantNoNode(t, nodes, at)
		}
	}
}

func wantNoNode(t *testing.T, nodes []impl.Node, at int64) {
	t.Helper()
	if end, kids, text := impl.EndOf(nodes, at), impl.KidsOf(nodes, at), impl.TextIn(nodes, at); end != -1 || len(kids) != 0 || text != "" {
		t.Errorf("of %+v, %d: EndOf %d, KidsOf %v, TextIn %q", nodes, at, end, kids, text)
	}
}

// checkTree asks all that can be asked of Nodes that are said to be a tree, or to be none.
func checkTree(t *testing.T, nodes []impl.Node, right bool) {
	t.Helper()
	// It is asked of thousands: one that fails tells enough.
	if t.Failed() {
		t.FailNow()
	}
	if expectedTreeOk(nodes) != right {
		t.Errorf("of %+v the oracle says %v", nodes, !right)
	}
	if got := impl.TreeOk(nodes); got != right {
		t.Errorf("TreeOk(%+v) = %v", nodes, got)
	}
	checkNodes(t, nodes, right)
	if !right {
		if list, shown := impl.TokensOf(nodes), impl.ShowTree(nodes); len(list) != 0 || shown != "" {
			t.Errorf("of %+v, no tree: TokensOf %+v, ShowTree %q", nodes, list, shown)
		}
		return
	}
	list, shown := expectedTokensFrom(nodes, 0), ""
	for _, one := range list {
		shown += expectedShow(one)
	}
	if got := impl.TokensOf(nodes); !sameTokens(got, list) {
		t.Errorf("TokensOf(%+v) = %+v", nodes, got)
	}
	if got, ok := impl.Grown(list); !ok || !sameTree(got, nodes) {
		t.Errorf("Grown(%+v) = %+v, %v", list, got, ok)
	}
	if got := impl.ShowTree(nodes); got != shown {
		t.Errorf("ShowTree(%+v) = %q", nodes, got)
	}
	if got, ok := impl.ReadTree(shown); ok != (len(shown) <= 4000) || ok && !sameTree(got, nodes) || !ok && len(got) != 0 {
		t.Errorf("ReadTree(%q) = %+v, %v", shown, got, ok)
	}
}

func wantNoTree(t *testing.T, letter string) {
	t.Helper()
	if got, ok := impl.ReadTree(letter); ok || len(got) != 0 {
		t.Errorf("ReadTree(%q) = %+v, %v", letter, got, ok)
	}
}

type treeCase struct {
	letter string
	nodes  []impl.Node
}

func treeCases() []treeCase {
	return []treeCase{
		{"<a></a>", []impl.Node{element(-1, "a")}},
		{"<c:Claim ns:c=\"claim\" Id=\"\"></c:Claim>", []impl.Node{element(-1, "c:Claim", "ns:c", "claim", "Id", "")}},
		{"<a>x</a>", []impl.Node{element(-1, "a"), textNode(0, "x")}},
		{"<a><a></a></a>", []impl.Node{element(-1, "a"), element(0, "a")}},
		{"<a><b></b><b></b></a>", []impl.Node{element(-1, "a"), element(0, "b"), element(0, "b")}},
		{"<a><b><c></c></b></a>", []impl.Node{element(-1, "a"), element(0, "b"), element(1, "c")}},
		{"<a>x<b></b></a>", []impl.Node{element(-1, "a"), textNode(0, "x"), element(0, "b")}},
		{"<a><b></b>x</a>", []impl.Node{element(-1, "a"), element(0, "b"), textNode(0, "x")}},
		{"<a>x<b></b>y</a>", []impl.Node{element(-1, "a"), textNode(0, "x"), element(0, "b"), textNode(0, "y")}},
		{"<a>x<b>x</b>x<b>x</b>x</a>", []impl.Node{element(-1, "a"), textNode(0, "x"), element(0, "b"), textNode(2, "x"), textNode(0, "x"), element(0, "b"), textNode(5, "x"), textNode(0, "x")}},
		{"<a><b>x</b>y</a>", []impl.Node{element(-1, "a"), element(0, "b"), textNode(1, "x"), textNode(0, "y")}},
		{"<a><b><c>x</c>y</b>z</a>", []impl.Node{element(-1, "a"), element(0, "b"), element(1, "c"), textNode(2, "x"), textNode(1, "y"), textNode(0, "z")}},
		{"<a>x<b><c></c></b>y</a>", []impl.Node{element(-1, "a"), textNode(0, "x"), element(0, "b"), element(2, "c"), textNode(0, "y")}},
		{"<a><b><c></c><d></d></b><e><f></f></e><g></g></a>", []impl.Node{element(-1, "a"), element(0, "b"), element(1, "c"), element(1, "d"), element(0, "e"), element(4, "f"), element(0, "g")}},
		{"<a x=\"1&lt;&quot;\"><b y=\">\" x=\"\">&lt;&amp;&gt;\"</b>\n</a>", []impl.Node{element(-1, "a", "x", "1<\""), element(0, "b", "y", ">", "x", ""), textNode(1, "<&>\""), textNode(0, "\n")}},
	}
}

func TestTreesOfLetters(t *testing.T) {
	for _, c := range treeCases() {
		checkTree(t, c.nodes, true)
		if got := impl.ShowTree(c.nodes); got != c.letter {
			t.Errorf("ShowTree(%+v) = %q, not %q", c.nodes, got, c.letter)
		}
		if got, ok := impl.ReadTree(c.letter); !ok || !sameTree(got, c.nodes) {
			t.Errorf("ReadTree(%q) = %+v, %v", c.letter, got, ok)
		}
	}
	for letter, same := range map[string]string{
		"<a/>": "<a></a>", "<!--r--><a><!--s--></a><!--t-->": "<a></a>", "<a>x<!--r-->y</a>": "<a>xy</a>", "<a x=\"1\"><b/>&quot;<c:d y=\"2\"/></a>": "<a x=\"1\"><b></b>\"<c:d y=\"2\"></c:d></a>", "<a><b/><!----><b/></a>": "<a><b></b><b></b></a>",
	} {
		if got, ok := impl.ReadTree(letter); !ok || impl.ShowTree(got) != same {
			t.Errorf("ReadTree(%q) = %+v, %v", letter, got, ok)
		}
	}
	if impl.MaxNodes != 50 || impl.MaxDepth != 9 {
		t.Error("a constant is another one")
	}
}

func TestReadTreeOfWrongLetters(t *testing.T) {
	for _, letter := range []string{
		"", " ", "x", "<!---->", "<a>", "<a>x", "</a>", "</a><a>", "<a></b>", "<a></A>", "<a></a:a>", "<a></a></a>", "<a/></a>", "<a></a><a></a>", "<a/><b/>", "<a/>x", "x<a/>", "x<a/>y", "<a/>\n", "\n<a/>", "<a></a> <!---->",
		"<a><b></a></b>", "<a><b></a>", "<a><b/>", "<a></b></a>", "<a><b></c></a>", "<a><b></b></b>", "<a>x</a>y", "<a><b></b></a></b>", "<a></a><b>", "<a></a></b>",
		"<a", "<a x=1></a>", "<a>&x;</a>", "<a>></a>", "<a\t></a>", "<a x=\"1\" x=\"2\"/>", "<a>\xff</a>", "<a>" + strings.Repeat("v", 61) + "</a>", "<a><!-- -- --></a>", "<a1/>",
	} {
		wantNoTree(t, letter)
		if nodes, ok := expectedTokens(letter); ok {
			wantNotGrown(t, nodes)
		}
	}
}

func wantNotGrown(t *testing.T, list []impl.Token) {
	t.Helper()
	if _, ok := expectedGrown(list); ok {
		t.Errorf("of %+v the oracle says true", list)
	}
	if got, ok := impl.Grown(list); ok || len(got) != 0 {
		t.Errorf("Grown(%+v) = %+v, %v", list, got, ok)
	}
}

func wantGrown(t *testing.T, list []impl.Token) {
	t.Helper()
	want, right := expectedGrown(list)
	got, ok := impl.Grown(list)
	if ok != right || !sameTree(got, want) {
		t.Fatalf("Grown(%+v) = %+v, %v, not %+v, %v", list, got, ok, want, right)
	}
	if ok && !sameTokens(impl.TokensOf(got), list) {
		t.Fatalf("Grown(%+v) = %+v, whose TokensOf %+v", list, got, impl.TokensOf(got))
	}
}

// eachList goes through all lists of at most so many of these.
func eachList[T any](of []T, most int, do func([]T)) {
	var grow func(list []T)
	grow = func(list []T) {
		do(list)
		if len(list) == most {
			return
		}
		for _, one := range of {
			grow(append(slices.Clip(list), one))
		}
	}
	grow(nil)
}

func TestGrownOfShortLists(t *testing.T) {
	trees := 0
	for _, of := range [][]impl.Token{
		{opened("a"), closed("a"), text("x")},
		{opened("a"), opened("b", "x", "1"), closed("a"), closed("b"), text("x")},
		{opened("a"), closed("a"), closed("A"), text("x"), text("y"), {}, {Kind: 1}, {Kind: 4, Name: "a"}},
	} {
		most := map[int]int{3: 9, 5: 6, 8: 5}[len(of)]
		eachList(of, most, func(list []impl.Token) {
			wantGrown(t, list)
			if _, ok := impl.Grown(list); ok {
				trees++
			}
		})
	}
	if trees < 100 {
		t.Errorf("only %d of them are trees", trees)
	}
}

func TestGrownOfWrongTokens(t *testing.T) {
	right := []impl.Token{opened("a", "x", "1"), text("x"), opened("b"), text("y"), closed("b"), text("z"), opened("c"), closed("c"), closed("a")}
	wantGrown(t, right)
	if _, ok := impl.Grown(right); !ok {
		t.Error("right Tokens are not grown")
	}
	wrong := []impl.Token{
		{}, {Kind: 4, Name: "a"}, {Kind: -1, Name: "a"}, {Kind: 1}, {Kind: 2}, {Kind: 3}, {Kind: math.MaxInt64, Name: "a"}, {Kind: math.MinInt64, Text: "a"}, opened("1"), closed("1"), text("\t"), text(strings.Repeat("v", 61)), opened("a", "x", "1", "x", "2"), opened("a", "", ""), {Kind: 1, Name: "a", Text: "x"}, {Kind: 2, Name: "a", Text: "x"}, {Kind: 2, Name: "a", Attrs: attrs("x", "1")}, {Kind: 3, Name: "a", Text: "x"}, {Kind: 3, Text: "x", Attrs: attrs("x", "1")},
	}
	for at := range len(right) + 1 {
		for _, one := range wrong {
			wantNotGrown(t, slices.Insert(slices.Clone(right), at, one))
			wantNotGrown(t, slices.Insert(slices.Clone(right), at, one, closed("a")))
		}
		for _, one := range []impl.Token{opened("a"), closed("a"), closed("b"), closed("c"), opened("b")} {
			wantNotGrown(t, slices.Insert(slices.Clone(right), at, one))
		}
		for _, one := range append(slices.Clone(right), text("w")) {
			wantGrown(t, slices.Insert(slices.Clone(right), at, one))
			wantGrown(t, append(slices.Clone(right[:at]), one))
			wantGrown(t, append([]impl.Token{one}, right[at:]...))
		}
		if at < len(right) {
			wantGrown(t, slices.Delete(slices.Clone(right), at, at+1))
			wantNotGrown(t, right[:at])
			for _, one := range wrong {
				replaced := slices.Clone(right)
				replaced[at] = one
				wantNotGrown(t, replaced)
			}
		}
	}
	wantNotGrown(t, nil)
	wantNotGrown(t, []impl.Token{})
	wantNotGrown(t, append(slices.Clone(right), right...))
	wantNotGrown(t, repeatedTokens(1<<16, opened("a")))
	wantNotGrown(t, repeatedTokens(1<<16, opened("a"), closed("a")))
	wantNotGrown(t, repeatedTokens(1<<16, text("a")))
	wantNotGrown(t, []impl.Token{opened("a"), text("x"), text("y"), closed("a")})
	wantNotGrown(t, []impl.Token{opened("a"), opened("b"), closed("b"), text("x"), text("x"), closed("a")})
}

// Each list of a few Nodes, whatever Parents they tell: the answers are those of the words of the chapter.
func TestTreeOkOfShortLists(t *testing.T) {
	trees, tried := 0, 0
	check := func(nodes []impl.Node) {
		want := expectedTreeOk(nodes)
		tried++
		if want {
			trees++
			checkTree(t, nodes, true)
		} else if impl.TreeOk(nodes) || len(impl.TokensOf(nodes)) > 0 || impl.EndOf(nodes, 0) != -1 {
			t.Fatalf("TreeOk(%+v) = %v", nodes, impl.TreeOk(nodes))
		}
	}
	var few, many []impl.Node
	for parent := int64(-2); parent <= 4; parent++ {
		few = append(few, element(parent, "a"), textNode(parent, "x"), impl.Node{Parent: parent})
		if parent >= -1 {
			many = append(many, element(parent, "a"), textNode(parent, "x"))
		}
	}
	eachList(few, 3, check)
	eachList(many, 4, check)
	var below []impl.Node
	for parent := int64(0); parent < 5; parent++ {
		below = append(below, element(parent, "b"), textNode(parent, "y"))
	}
	eachList(below, 5, func(rest []impl.Node) { check(append([]impl.Node{element(-1, "a")}, rest...)) })
	if trees < 200 || tried < 100000 {
		t.Errorf("%d lists, and only %d of them trees", tried, trees)
	}
}

// middleTree has Nodes of each kind in each place.
func middleTree() []impl.Node {
	return []impl.Node{
		element(-1, "a", "x", "1"), textNode(0, "p"), element(0, "b"), element(2, "c", "y", "2", "z", ""), textNode(3, "q"), element(3, "d"), textNode(2, "r"), element(0, "e"), textNode(0, "s"), element(0, "f"), textNode(9, "t"),
	}
}

func TestTreeOkOfParents(t *testing.T) {
	nodes := middleTree()
	checkTree(t, nodes, true)
	for at := range nodes {
		far := append(farNumbers(), math.MaxInt64, math.MinInt64)
		for parent := int64(-3); parent <= int64(len(nodes))+2; parent++ {
			far = append(far, parent)
		}
		for _, parent := range far {
			changed := slices.Clone(nodes)
			changed[at].Parent = parent
			checkTree(t, changed, expectedTreeOk(changed))
			if parent < -1 || parent >= int64(at) || at == 0 && parent != -1 || at > 0 && parent == -1 {
				checkTree(t, changed, false)
			}
		}
	}
	for _, parent := range []int64{1, 4, 6, 8} {
		for _, last := range []impl.Node{element(parent, "g"), textNode(parent, "u")} {
			checkTree(t, append(slices.Clone(nodes), last), false)
		}
	}
	checkTree(t, nil, false)
	checkTree(t, []impl.Node{}, false)
	checkTree(t, []impl.Node{{}}, false)
	checkTree(t, []impl.Node{textNode(-1, "x")}, false)
	checkTree(t, []impl.Node{textNode(-1, "x"), element(0, "a")}, false)
	checkTree(t, []impl.Node{element(0, "a")}, false)
	checkTree(t, []impl.Node{element(1, "a"), element(-1, "b")}, false)
	checkTree(t, []impl.Node{element(-1, "a"), element(-1, "b")}, false)
	checkTree(t, []impl.Node{element(-1, "a"), textNode(-1, "x")}, false)
	checkTree(t, []impl.Node{element(-1, "a"), element(0, "b"), element(0, "c"), element(1, "d")}, false)
	checkTree(t, []impl.Node{element(-1, "a"), element(0, "b"), textNode(1, "x"), element(0, "c"), element(1, "d")}, false)
	checkTree(t, []impl.Node{element(-1, "a"), element(0, "b"), element(0, "c"), textNode(1, "x"), textNode(2, "y")}, false)
}

func TestTreeOkOfOtherOrders(t *testing.T) {
	nodes := middleTree()
	for i := range nodes {
		for j := range i {
			swapped := slices.Clone(nodes)
			swapped[i], swapped[j] = swapped[j], swapped[i]
			checkTree(t, swapped, expectedTreeOk(swapped))
		}
		checkTree(t, nodes[:i], i > 0)
		shorter := slices.Delete(slices.Clone(nodes), i, i+1)
		checkTree(t, shorter, expectedTreeOk(shorter))
		twice := slices.Insert(slices.Clone(nodes), i, nodes[i])
		checkTree(t, twice, expectedTreeOk(twice))
	}
}

func TestTreeOkOfTextsSideBySide(t *testing.T) {
	checkTree(t, []impl.Node{element(-1, "a"), textNode(0, "x"), textNode(0, "y")}, false)
	checkTree(t, []impl.Node{element(-1, "a"), textNode(0, "x"), textNode(0, "x")}, false)
	checkTree(t, []impl.Node{element(-1, "a"), element(0, "b"), textNode(0, "x"), textNode(0, "y")}, false)
	checkTree(t, []impl.Node{element(-1, "a"), element(0, "b"), textNode(1, "x"), textNode(1, "y")}, false)
	checkTree(t, []impl.Node{element(-1, "a"), textNode(0, "x"), textNode(0, "y"), element(0, "b")}, false)
	checkTree(t, []impl.Node{element(-1, "a"), textNode(0, "x"), element(0, "b"), textNode(2, "z"), textNode(0, "y"), textNode(0, "y")}, false)
	checkTree(t, []impl.Node{element(-1, "a"), textNode(0, "x"), element(0, "b"), textNode(0, "y")}, true)
	checkTree(t, []impl.Node{element(-1, "a"), textNode(0, "x"), element(0, "b"), textNode(2, "z"), textNode(0, "y")}, true)
	checkTree(t, []impl.Node{element(-1, "a"), element(0, "b"), textNode(1, "x"), textNode(0, "y")}, true)
	checkTree(t, []impl.Node{element(-1, "a"), textNode(0, "x"), element(0, "b"), textNode(2, "y")}, true)
}

// Each Node of a tree, with each of its fields right in another way, and wrong.
func TestTreeOkOfFields(t *testing.T) {
	for at := range middleTree() {
		try := func(right bool, change func(n *impl.Node)) {
			t.Helper()
			nodes := middleTree()
			change(&nodes[at])
			checkTree(t, nodes, right)
		}
		isText := middleTree()[at].Name == ""
		for _, c := range nameCases() {
			try(c.ok && !isText || c.name == "" && isText, func(n *impl.Node) { n.Name = c.name })
			try(c.ok && !isText, func(n *impl.Node) { n.Attrs = attrs(c.name, "1") })
			try(c.ok && !isText, func(n *impl.Node) { n.Attrs = attrs("q:q", "1", c.name, "") })
		}
		for _, length := range []int{0, 1, 2, 59, 60, 61, 62, 500} {
			try(isText && length >= 1 && length <= 60 || !isText && length == 0, func(n *impl.Node) { n.Text = strings.Repeat("&", length) })
			try(!isText && length <= 60, func(n *impl.Node) { n.Attrs = attrs("x", strings.Repeat("&", length)) })
		}
		for b := range 256 {
			try(isText && plainByte(b), func(n *impl.Node) { n.Text = "a" + oneByte(b) })
			try(!isText && plainByte(b), func(n *impl.Node) { n.Attrs = attrs("x", oneByte(b)+"a") })
		}
		names := []string{"s", "t", "u", "v", "w", "x", "y", "z"}
		for count := range len(names) + 1 {
			var pairs []string
			for _, name := range names[:count] {
				pairs = append(pairs, name, "1")
			}
			try(count == 0 || !isText && count <= 6, func(n *impl.Node) { n.Attrs = attrs(pairs...) })
		}
		try(false, func(n *impl.Node) { n.Attrs = attrs("x", "1", "x", "2") })
		try(true, func(n *impl.Node) { n.Attrs = []impl.Attr{} })
		try(false, func(n *impl.Node) { n.Name, n.Text = "a", "x" })
		try(false, func(n *impl.Node) { n.Name, n.Text, n.Attrs = "", "", attrs("x", "1") })
		try(false, func(n *impl.Node) { n.Name, n.Text, n.Attrs = "", "", nil })
		try(false, func(n *impl.Node) { n.Name, n.Text, n.Attrs = "", "x", attrs("x", "1") })
	}
}

// chain is so many elements in one another, the root the outermost, and what stands in the last.
func chain(count int, in ...impl.Node) []impl.Node {
	var nodes []impl.Node
	for i := range count {
		nodes = append(nodes, element(int64(i)-1, "a"))
	}
	for _, n := range in {
		n.Parent = int64(count) - 1
		nodes = append(nodes, n)
	}
	return nodes
}

func TestTreesOfMostDepth(t *testing.T) {
	for count := 1; count <= 12; count++ {
		checkTree(t, chain(count), count <= 9)
		checkTree(t, chain(count, textNode(0, "x")), count+1 <= 9)
		checkTree(t, chain(count, textNode(0, "x"), element(0, "b"), textNode(0, "y")), count+1 <= 9)
		checkTree(t, append(chain(count), element(0, "b"), element(int64(count), "c")), count <= 9)
		checkTree(t, append(chain(count, textNode(0, "x")), element(0, "b")), count+1 <= 9)
		shown := strings.Repeat("<a>", count) + strings.Repeat("</a>", count)
		if got, ok := impl.ReadTree(shown); ok != (count <= 9) || ok != sameTree(got, chain(count)) || !ok && len(got) > 0 {
			t.Errorf("ReadTree(%q) = %+v, %v", shown, got, ok)
		}
		withText := strings.Repeat("<a>", count) + "x" + strings.Repeat("</a>", count)
		if got, ok := impl.ReadTree(withText); ok != (count+1 <= 9) || !ok && len(got) > 0 {
			t.Errorf("ReadTree(%q) = %+v, %v", withText, got, ok)
		}
	}
	// The deepest ones need not come first.
	for count := 7; count <= 10; count++ {
		nodes := []impl.Node{element(-1, "a"), element(0, "b"), textNode(1, "x")}
		nodes = append(nodes, element(0, "c"))
		for len(nodes) < count+2 {
			nodes = append(nodes, element(int64(len(nodes))-1, "d"))
		}
		checkTree(t, nodes, count <= 9)
		checkTree(t, append(nodes, textNode(int64(len(nodes))-1, "y")), count+1 <= 9)
		checkTree(t, append(nodes, textNode(0, "y")), count <= 9)
	}
}

func TestTreesOfMostNodes(t *testing.T) {
	for count := 48; count <= 53; count++ {
		wide, mixed, deep := []impl.Node{element(-1, "a")}, []impl.Node{element(-1, "a")}, []impl.Node{element(-1, "a")}
		for len(wide) < count {
			wide = append(wide, element(0, "b"))
		}
		for len(mixed) < count {
			mixed = append(mixed, textNode(0, "x"))
			if len(mixed) < count {
				mixed = append(mixed, element(0, "b"))
			}
		}
		for len(deep) < count {
			at := int64(len(deep))
			deep = append(deep, element(0, "b"), element(at, "c"), textNode(at+1, "x"))
		}
		deep = deep[:count]
		for _, nodes := range [][]impl.Node{wide, mixed, deep} {
			checkTree(t, nodes, count <= 50)
			wantGrown(t, expectedTokensFrom(nodes, 0))
		}
		letter := "<a>" + strings.Repeat("<b/>", count-1) + "</a>"
		if got, ok := impl.ReadTree(letter); ok != (count <= 50) || ok && !sameTree(got, wide) || !ok && len(got) > 0 {
			t.Errorf("ReadTree(%q) = %+v, %v", letter, got, ok)
		}
	}
	checkTree(t, make([]impl.Node, 1<<16), false)
	checkTree(t, slices.Repeat([]impl.Node{element(-1, "a")}, 1000), false)
}

// A letter of just MaxTokens Tokens has more Nodes than a tree: it is read, but not grown.
func TestReadTreeOfMostTokens(t *testing.T) {
	for count := 58; count <= 62; count++ {
		for _, letter := range []string{"<a>" + strings.Repeat("<b/>", count-1) + "</a>", "<a>" + strings.Repeat("x<b/>", (2*count-2)/3) + "</a>", strings.Repeat("<a>", count) + strings.Repeat("</a>", count), strings.Repeat("<a/>", count)} {
			list, ok := impl.Tokens(letter)
			if len(list) == 120 && !ok || len(list) == 0 && ok {
				t.Errorf("Tokens(%q) = %+v, %v", letter, list, ok)
			}
			want, right := expectedGrown(list)
			if got, ok := impl.ReadTree(letter); ok != right || !sameTree(got, want) {
				t.Errorf("ReadTree(%q) = %+v, %v", letter, got, ok)
			}
		}
	}
	wantNoTree(t, "<a>"+strings.Repeat("<b/>", 59)+"</a>")
	wantNoTree(t, "<a>"+strings.Repeat("x<b/>", 39)+"y</a>")
}

// lengthyTree shows so many signs.
func lengthyTree(signs int) []impl.Node {
	nodes := []impl.Node{element(-1, "a")}
	left := signs - len("<a></a>")
	for ; left > 700; left -= len("<b></b>") + 300 {
		nodes = append(nodes, element(0, "b"), textNode(int64(len(nodes)), strings.Repeat("&", 60)))
	}
	left -= len("<c x=\"\" y=\"\"></c>")
	value := func(most int) string {
		use := min(left, most)
		left -= use
		return strings.Repeat("\"", use/6) + strings.Repeat("v", use%6)
	}
	return append(nodes, element(0, "c", "x", value(330), "y", value(360)))
}

func TestShowTreeOfMostSigns(t *testing.T) {
	for signs := 3990; signs <= 4010; signs++ {
		nodes := lengthyTree(signs)
		shown := impl.ShowTree(nodes)
		if len(shown) != signs {
			t.Fatalf("%d signs, not %d: %q", len(shown), signs, shown)
		}
		checkTree(t, nodes, true)
		if got, ok := impl.ReadTree(shown); ok != (signs <= 4000) || ok != sameTree(got, nodes) || !ok && len(got) > 0 {
			t.Errorf("ReadTree of %d signs = %+v, %v", signs, got, ok)
		}
	}
	full := strings.Repeat("&", 60)
	greatest := []impl.Node{element(-1, "abcdefghij:abcdefghij")}
	for len(greatest) < 50 {
		greatest = append(greatest, element(0, "abcdefghij:abcdefghij", "a", full, "b", full, "c", full, "d", full, "e", full, "f", full))
	}
	checkTree(t, greatest, true)
	if shown := impl.ShowTree(greatest); len(shown) < 80000 {
		t.Errorf("the greatest one shows %d signs only", len(shown))
	}
}

func TestNodesOfATree(t *testing.T) {
	nodes := middleTree()
	for _, c := range []struct {
		at, end int64
		kids    []int64
		text    string
	}{
		{0, 11, []int64{1, 2, 7, 8, 9}, "ps"}, {1, 2, nil, ""}, {2, 7, []int64{3, 6}, "r"}, {3, 6, []int64{4, 5}, "q"}, {4, 5, nil, ""}, {5, 6, nil, ""},
		{6, 7, nil, ""}, {7, 8, nil, ""}, {8, 9, nil, ""}, {9, 11, []int64{10}, "t"}, {10, 11, nil, ""},
	} {
		if end, kids, text := impl.EndOf(nodes, c.at), impl.KidsOf(nodes, c.at), impl.TextIn(nodes, c.at); end != c.end || !slices.Equal(kids, c.kids) || text != c.text {
			t.Errorf("at %d: EndOf %d, KidsOf %v, TextIn %q", c.at, end, kids, text)
		}
	}
	for _, at := range append(farNumbers(), -1, -2, -11, 11, 12, 50, 256, 1<<32, 1<<32+3, math.MinInt64+3, math.MaxInt64, math.MinInt64) {
		wantNoNode(t, nodes, at)
		wantNoNode(t, nil, at)
		wantNoNode(t, []impl.Node{}, at)
		wantNoNode(t, []impl.Node{textNode(-1, "x")}, at)
	}
	long := []impl.Node{element(-1, "a")}
	for range 24 {
		long = append(long, textNode(0, strings.Repeat("<", 60)), element(0, "b"))
	}
	if got := impl.TextIn(long, 0); got != strings.Repeat("<", 24*60) {
		t.Errorf("TextIn = %q", got)
	}
	wrong := middleTree()
	wrong[10].Text = ""
	for at := range wrong {
		wantNoNode(t, wrong, int64(at))
	}
}

// dice tells numbers that hang on the seed alone.
func dice(seed int) func(below int) int {
	state := uint64(seed+1) * 2685821657736338717
	return func(below int) int {
		state ^= state << 13
		state ^= state >> 7
		state ^= state << 17
		return int(state >> 33 % uint64(below))
	}
}

func strewnNode(next func(int) int, parent int64, text bool) impl.Node {
	names := []string{"a", "B", "c:Claim", "abcdefghij", "abcdefghij:KLMNOPQRST", "ns", "ns:x", "Id", "z"}
	texts := []string{"a", "<", ">", "&", "\"", "&lt;", "-->", "<!--r-->", " ", "\n", "two words", "</a>", strings.Repeat("&", 60), allPlain()[:60], allPlain()[36:]}
	if text {
		return textNode(parent, texts[next(len(texts))])
	}
	n := element(parent, names[next(len(names))])
	for i, most := next(len(names)), next(4)*next(3); len(n.Attrs) < most; i++ {
		n.Attrs = append(n.Attrs, attrs(names[i%len(names)], append(texts, "")[next(len(texts)+1)])...)
	}
	return n
}

func strewnTree(seed int) []impl.Node {
	next := dice(seed)
	nodes, open := []impl.Node{strewnNode(next, -1, false)}, []int64{0}
	for size := next(50) + 1; len(nodes) < size; {
		open = open[:max(1, len(open)-next(3))]
		parent, last := open[len(open)-1], nodes[len(nodes)-1]
		n := strewnNode(next, parent, next(2) == 0 && !(last.Name == "" && last.Parent == parent))
		if n.Name != "" && len(open) < 8 {
			open = append(open, int64(len(nodes)))
		}
		nodes = append(nodes, n)
	}
	return nodes
}

// Promise 8.
func TestReadTreeOfShowTreeIsTheTree(t *testing.T) {
	read, texts, deepest := 0, 0, 0
	for seed := range 3000 {
		nodes := strewnTree(seed)
		checkTree(t, nodes, true)
		shown := impl.ShowTree(nodes)
		got, ok := impl.ReadTree(shown)
		if ok != (len(shown) <= 4000) || ok && !sameTree(got, nodes) {
			t.Fatalf("ReadTree(%q) = %+v, %v, not %+v", shown, got, ok, nodes)
		}
		if ok {
			read++
		}
		for at, n := range nodes {
			deepest = max(deepest, expectedDepth(nodes, int64(at)))
			if n.Name == "" {
				texts++
			}
		}
	}
	if read < 1500 || read > 2990 || texts < 5000 || deepest != 9 {
		t.Errorf("%d trees read, %d texts, %d in one another", read, texts, deepest)
	}
}

// Promise 8, the other way: what was read shows a letter that is read likewise.
func TestTreesReadAreRightAndShown(t *testing.T) {
	trees := 0
	for _, pieces := range [][]string{
		{"<a>", "</a>", "<b/>", "x", "<!--r-->"},
		{"<a", ">", "/>", "</a>", " x=\"1\"", "&lt;", "<b>", "</b>"},
	} {
		eachText(pieces, 6, func(s string) {
			list, ok := expectedTokens(s)
			want, right := expectedGrown(list)
			right = right && ok
			nodes, ok := impl.ReadTree(s)
			if ok != right || !sameTree(nodes, want) {
				t.Fatalf("ReadTree(%q) = %+v, %v", s, nodes, ok)
			}
			if ok {
				trees++
				if again, ok := impl.ReadTree(impl.ShowTree(nodes)); !ok || !sameTree(again, nodes) || !impl.TreeOk(nodes) {
					t.Fatalf("ReadTree(%q) = %+v, shown and read again %+v, %v", s, nodes, again, ok)
				}
			}
		})
	}
	if trees < 500 {
		t.Errorf("only %d trees were read", trees)
	}
}

func TestReadTreeOfChangedLetters(t *testing.T) {
	for _, letter := range []string{"<a x=\"1\">p<b/><!--r-->q<c:d>&lt;</c:d></a>", "<!----><a><a>x</a><b></b></a>"} {
		for at := range len(letter) + 1 {
			for _, c := range []string{"", "<", ">", "/", " ", "a", "\n", "\t", "<a/>", "</a>", "<a>", "x", "<!--r-->"} {
				for size := range min(3, len(letter)-at+1) {
					s := letter[:at] + c + letter[at+size:]
					list, ok := expectedTokens(s)
					want, right := expectedGrown(list)
					if got, is := impl.ReadTree(s); is != (ok && right) || !sameTree(got, want) {
						t.Fatalf("ReadTree(%q) = %+v, %v", s, got, is)
					}
				}
			}
		}
	}
}

func nodeTokens(nodes []impl.Node) []impl.Token {
	var list []impl.Token
	for _, n := range nodes {
		list = append(list, impl.Token{Name: n.Name, Attrs: n.Attrs, Text: n.Text})
	}
	return list
}

// layTexts lays each text of the Tokens on a buffer of its own, with spare room, and each list of Attrs likewise.
func layTexts(list []impl.Token) ([]impl.Token, [][]byte) {
	var out []impl.Token
	var buffers [][]byte
	lay := func(s string) string {
		on, buffer := laid(s)
		buffers = append(buffers, buffer)
		return on
	}
	for _, one := range list {
		own := make([]impl.Attr, 0, 9)
		for _, a := range one.Attrs {
			own = append(own, impl.Attr{Name: lay(a.Name), Value: lay(a.Value)})
		}
		out = append(out, impl.Token{Kind: one.Kind, Name: lay(one.Name), Attrs: own, Text: lay(one.Text)})
	}
	return out, buffers
}

func layNodes(nodes []impl.Node) ([]impl.Node, [][]byte) {
	tokens, buffers := layTexts(nodeTokens(nodes))
	var out []impl.Node
	for i, one := range tokens {
		out = append(out, impl.Node{Parent: nodes[i].Parent, Name: one.Name, Attrs: one.Attrs, Text: one.Text})
	}
	return out, buffers
}

func buffersStay(t *testing.T, texts []string, buffers [][]byte) {
	t.Helper()
	if len(texts) != len(buffers) {
		t.Fatalf("%d texts, %d buffers", len(texts), len(buffers))
	}
	for i, s := range texts {
		if string(buffers[i]) != s+"spare room" {
			t.Errorf("the text %q became %q", s, buffers[i])
		}
	}
}

func attrsRoomStays(t *testing.T, list []impl.Token) {
	t.Helper()
	for _, one := range list {
		for _, a := range one.Attrs[len(one.Attrs):cap(one.Attrs)] {
			if a != (impl.Attr{}) {
				t.Errorf("the spare room of Attrs became %q", a)
			}
		}
	}
}

// layOrder tells the texts in the order in which layTexts lays them.
func layOrder(list []impl.Token) []string {
	var texts []string
	for _, one := range list {
		for _, a := range one.Attrs {
			texts = append(texts, strings.Clone(a.Name), strings.Clone(a.Value))
		}
		texts = append(texts, strings.Clone(one.Name), strings.Clone(one.Text))
	}
	return texts
}

// wantApart holds that no text and no Attrs of the answer lie in one another, or in the argument's.
func wantApart(t *testing.T, what string, answer, argument []impl.Token) {
	t.Helper()
	texts, others := tokenTexts(answer), tokenTexts(argument)
	for i, one := range texts {
		for _, other := range append(slices.Clip(others), texts[:i]...) {
			if sharesMemory(one, other) {
				t.Errorf("of %s the text %q lies in the argument, or in another one", what, one)
			}
		}
	}
	for i, one := range answer {
		for _, other := range append(slices.Clip(argument), answer[:i]...) {
			if sharesRoom(one.Attrs, other.Attrs) || cap(other.Attrs) > 0 && unsafe.SliceData(one.Attrs) == unsafe.SliceData(other.Attrs) {
				t.Errorf("of %s the Attrs %+v lie in the argument, or in others", what, one.Attrs)
			}
		}
	}
}

func memoryTrees() [][]impl.Node {
	wrong := middleTree()
	wrong[3].Parent = 1
	trees := [][]impl.Node{nil, middleTree(), wrong, chain(9), chain(10), {element(-1, "a", "a", "a", "b", "a"), element(0, "a", "a", "a"), textNode(1, "a"), textNode(0, "a")}}
	for seed := range 20 {
		trees = append(trees, strewnTree(seed))
	}
	return trees
}

// A laidTree lies ahead of spare room, and so does each text and each list of Attrs in it.
type laidTree struct {
	given, nodes, whole, before []impl.Node
	buffers                     [][]byte
}

func layTree(given []impl.Node) laidTree {
	nodes, buffers := layNodes(given)
	whole := append(nodes, textNode(7, "spare"), element(8, "room"))
	return laidTree{given: given, nodes: whole[:len(given)], whole: whole, before: slices.Clone(whole), buffers: buffers}
}

// stays holds that the Nodes are what was given, and their spare room what it was.
func (l laidTree) stays(t *testing.T) {
	t.Helper()
	if !sameTree(l.whole, l.before) || !sameTree(l.nodes, l.given) {
		t.Errorf("the Nodes %+v became %+v", l.before, l.whole)
	}
	for i := range l.whole {
		if len(l.before[i].Attrs) > 0 && unsafe.SliceData(l.whole[i].Attrs) != unsafe.SliceData(l.before[i].Attrs) {
			t.Errorf("the Attrs of %d lie elsewhere", i)
		}
	}
	attrsRoomStays(t, nodeTokens(l.nodes))
	buffersStay(t, layOrder(nodeTokens(l.given)), l.buffers)
}

// Promise 21 for chapter 8: what is told of Nodes.
func TestTreeAnswersAreNewMemoryAndArgumentsStay(t *testing.T) {
	for _, given := range memoryTrees() {
		tree := layTree(given)
		nodes := tree.nodes
		list, again := impl.TokensOf(nodes), impl.TokensOf(nodes)
		wantApart(t, "TokensOf", list, nodeTokens(nodes))
		wantApart(t, "TokensOf", again, append(nodeTokens(nodes), list...))
		shown := impl.ShowTree(nodes)
		impl.TreeOk(nodes)
		for at := range int64(len(nodes)) {
			impl.EndOf(nodes, at)
			kids, others, text := impl.KidsOf(nodes, at), impl.KidsOf(nodes, at), impl.TextIn(nodes, at)
			if len(kids) > 0 && &kids[0] == &others[0] {
				t.Errorf("KidsOf tells one list twice: %v", kids)
			}
			for _, n := range nodes {
				if sharesMemory(text, n.Text) || sharesMemory(shown, n.Text) {
					t.Errorf("TextIn %q or ShowTree lies in a Node", text)
				}
			}
		}
		tree.stays(t)
	}
}

// Promise 21 for chapter 8: what is grown and read.
func TestGrownAnswersAreNewMemoryAndArgumentsStay(t *testing.T) {
	lists := [][]impl.Token{nil, {opened("a")}, {opened("a"), closed("b")}, {opened("a", "x", "1"), {Kind: 9}}, {text("x")}}
	for _, nodes := range memoryTrees() {
		lists = append(lists, impl.TokensOf(nodes), append(impl.TokensOf(nodes), closed("a")))
	}
	for _, given := range lists {
		list, buffers := layTexts(given)
		whole := append(list, opened("spare"), text("room"))
		list = whole[:len(given)]
		before := slices.Clone(whole)
		nodes, _ := impl.Grown(list)
		again, _ := impl.Grown(list)
		wantApart(t, "Grown", nodeTokens(nodes), list)
		wantApart(t, "Grown", nodeTokens(again), append(slices.Clone(list), nodeTokens(nodes)...))
		if !sameTokens(whole, before) || !sameTokens(list, given) {
			t.Errorf("the Tokens %+v became %+v", before, whole)
		}
		attrsRoomStays(t, list)
		buffersStay(t, layOrder(given), buffers)
	}
	for _, s := range append(longerLetters(), "", "<a>", "x", "\xff", impl.ShowTree(middleTree()), impl.ShowTree(strewnTree(3)), "<a x=\"a\">a<!--r-->a<a x=\"a\"/></a>") {
		letter, buffer := laid(s)
		nodes, _ := impl.ReadTree(letter)
		again, _ := impl.ReadTree(letter)
		wantApart(t, "ReadTree", nodeTokens(nodes), []impl.Token{text(letter)})
		wantApart(t, "ReadTree", nodeTokens(again), nodeTokens(nodes))
		if string(buffer) != s+"spare room" {
			t.Errorf("the letter %q became %q", s, buffer)
		}
	}
}

// Promise 21 for chapter 8: an answer to whatever is given, nothing where it is false, and the same one each time.
func TestTreeFunctionsAnswerEverywhere(t *testing.T) {
	numbers := append(farNumbers(), -2, -1, 0, 1, 2, 3, 49, 50, 51)
	for seed := range 20000 {
		next := dice(seed)
		var nodes []impl.Node
		var list []impl.Token
		for range next(9) {
			name, s := []string{"", "a", "a", "b:c", "1", "\xff"}[next(6)], []string{"", "", "x", "\t", strings.Repeat("v", 61)}[next(5)]
			pairs := []string{name, s, "x", s}[:2*next(3)]
			nodes = append(nodes, impl.Node{Parent: numbers[next(len(numbers))], Name: name, Attrs: attrs(pairs...), Text: s})
			list = append(list, impl.Token{Kind: int64(next(5)), Name: name, Attrs: attrs(pairs...), Text: s})
		}
		checkTree(t, nodes, expectedTreeOk(nodes))
		wantGrown(t, list)
		wantNoNode(t, nodes, numbers[next(16)])
	}
	for b := range 256 {
		for _, s := range []string{oneByte(b), "<a>" + oneByte(b) + "</a>", "<a" + oneByte(b) + "></a>", oneByte(b) + "<a/>", "<a/>" + oneByte(b), strings.Repeat(oneByte(b), 4000)} {
			list, ok := expectedTokens(s)
			want, right := expectedGrown(list)
			if got, is := impl.ReadTree(s); is != (ok && right) || !sameTree(got, want) {
				t.Errorf("ReadTree(%q) = %+v, %v", s, got, is)
			}
		}
	}
	for _, n := range []int{100, 1000, 1 << 18} {
		for _, piece := range []string{"<a>", "</a>", "<a/>", "x", "<", "<!---->"} {
			wantNoTree(t, strings.Repeat(piece, n))
		}
		checkTree(t, slices.Repeat([]impl.Node{element(0, "a")}, n), false)
	}
}
