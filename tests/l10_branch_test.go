package tests

import (
	"math"
	"slices"
	"strings"
	"testing"

	"loop.example/g00379/impl"
)

// A twig holds what a Node has, instead of being told its place.
type twig struct {
	node impl.Node
	kids []*twig
}

func twigAt(t []impl.Node, at int64) *twig {
	w := &twig{node: t[at]}
	for _, kid := range expectedKids(t, at) {
		w.kids = append(w.kids, twigAt(t, kid))
	}
	return w
}

// all tells a twig and those in it, in the order of their places.
func (w *twig) all() []*twig {
	list := []*twig{w}
	for _, kid := range w.kids {
		list = append(list, kid.all()...)
	}
	return list
}

func (w *twig) behind(nodes []impl.Node, parent int64) []impl.Node {
	n, at := w.node, int64(len(nodes))
	n.Parent = parent
	nodes = append(nodes, n)
	for _, kid := range w.kids {
		nodes = kid.behind(nodes, at)
	}
	return nodes
}

func (w *twig) isText() bool { return w.node.Name == "" }

// take leaves one kid out, and makes one of two texts that come to stand side by side.
func (w *twig) take(gone *twig) {
	kids := w.kids
	w.kids = nil
	for _, kid := range kids {
		last := len(w.kids) - 1
		switch {
		case kid == gone:
		case last >= 0 && kid.isText() && w.kids[last].isText():
			w.kids[last] = &twig{node: textNode(0, w.kids[last].node.Text+kid.node.Text)}
		default:
			w.kids = append(w.kids, kid)
		}
	}
}

// expectedChange tells what the tree becomes by a change of its twigs, where that is a tree.
func expectedChange(t []impl.Node, change func(all []*twig)) ([]impl.Node, bool) {
	first := twigAt(t, 0)
	change(first.all())
	if nodes := first.behind(nil, -1); expectedTreeOk(nodes) {
		return nodes, true
	}
	return t, false
}

func expectedBranch(t []impl.Node, at int64) ([]impl.Node, bool) {
	if !expectedTreeOk(t) || at < 0 || at >= int64(len(t)) || t[at].Name == "" {
		return nil, false
	}
	return twigAt(t, at).behind(nil, -1), true
}

func expectedPruned(t []impl.Node, at int64) ([]impl.Node, bool) {
	if !expectedTreeOk(t) {
		return nil, false
	}
	if at < 1 || at >= int64(len(t)) {
		return t, false
	}
	return expectedChange(t, func(all []*twig) { all[t[at].Parent].take(all[at]) })
}

func expectedGrafted(t []impl.Node, at int64, branch []impl.Node) ([]impl.Node, bool) {
	if !expectedTreeOk(t) {
		return nil, false
	}
	if at < 0 || at >= int64(len(t)) || t[at].Name == "" || !expectedTreeOk(branch) {
		return t, false
	}
	return expectedChange(t, func(all []*twig) { all[at].kids = append(all[at].kids, twigAt(branch, 0)) })
}

func expectedWrapped(t []impl.Node, at int64, name string) ([]impl.Node, bool) {
	if !expectedTreeOk(t) {
		return nil, false
	}
	if at < 1 || at >= int64(len(t)) || t[at].Name == "" || !expectedName(name) {
		return t, false
	}
	return expectedChange(t, func(all []*twig) {
		kids := all[t[at].Parent].kids
		kids[slices.Index(kids, all[at])] = &twig{node: element(0, name), kids: []*twig{all[at]}}
	})
}

// An answer is what the functions of this chapter tell.
type answer struct {
	nodes []impl.Node
	ok    bool
}

func told(nodes []impl.Node, ok bool) answer { return answer{nodes, ok} }

func asItIs(nodes []impl.Node) answer { return answer{nodes, false} }

func wantTold(t *testing.T, function string, nodes []impl.Node, at int64, got, want answer) {
	t.Helper()
	if got.ok != want.ok || !sameTree(got.nodes, want.nodes) {
		t.Errorf("%s of %+v, %d: %+v, not %+v", function, nodes, at, got, want)
	}
}

func wantBranch(t *testing.T, nodes []impl.Node, at int64, want answer) {
	t.Helper()
	wantTold(t, "Branch", nodes, at, told(impl.Branch(nodes, at)), want)
	wantTold(t, "the oracle's Branch", nodes, at, told(expectedBranch(nodes, at)), want)
}

func wantPruned(t *testing.T, nodes []impl.Node, at int64, want answer) {
	t.Helper()
	wantTold(t, "Pruned", nodes, at, told(impl.Pruned(nodes, at)), want)
	wantTold(t, "the oracle's Pruned", nodes, at, told(expectedPruned(nodes, at)), want)
}

func wantGrafted(t *testing.T, nodes []impl.Node, at int64, branch []impl.Node, want answer) {
	t.Helper()
	wantTold(t, "Grafted", nodes, at, told(impl.Grafted(nodes, at, branch)), want)
	wantTold(t, "the oracle's Grafted", nodes, at, told(expectedGrafted(nodes, at, branch)), want)
}

func wantWrapped(t *testing.T, nodes []impl.Node, at int64, name string, want answer) {
	t.Helper()
	wantTold(t, "Wrapped", nodes, at, told(impl.Wrapped(nodes, at, name)), want)
	wantTold(t, "the oracle's Wrapped", nodes, at, told(expectedWrapped(nodes, at, name)), want)
}

// checkBranches asks all four functions at each Node there, and at some that are not.
func checkBranches(t *testing.T, nodes, branch []impl.Node, name string) {
	t.Helper()
	// It is asked of thousands: one that fails tells enough.
	if t.Failed() {
		t.FailNow()
	}
	for at := int64(-2); at <= int64(len(nodes))+1; at++ {
		wantTold(t, "Branch", nodes, at, told(impl.Branch(nodes, at)), told(expectedBranch(nodes, at)))
		wantTold(t, "Pruned", nodes, at, told(impl.Pruned(nodes, at)), told(expectedPruned(nodes, at)))
		wantTold(t, "Grafted", nodes, at, told(impl.Grafted(nodes, at, branch)), told(expectedGrafted(nodes, at, branch)))
		wantTold(t, "Wrapped", nodes, at, told(impl.Wrapped(nodes, at, name)), told(expectedWrapped(nodes, at, name)))
	}
}

// wantRefused holds that no function does a thing there: Branch tells nothing, the others the tree as it is, or nothing where it is none.
func wantRefused(t *testing.T, nodes []impl.Node, at int64, branch []impl.Node, name string) {
	t.Helper()
	same := answer{}
	if expectedTreeOk(nodes) {
		same = asItIs(nodes)
	}
	wantBranch(t, nodes, at, answer{})
	wantPruned(t, nodes, at, same)
	wantGrafted(t, nodes, at, branch, same)
	wantWrapped(t, nodes, at, name, same)
}

// A branchCase tells by letters what becomes of the tree at this place; where want is empty, it is refused.
type branchCase struct {
	letter string
	at     int64
	want   string
}

func (c branchCase) nodes(t *testing.T) []impl.Node { return letterTree(t, c.letter) }

func (c branchCase) answer(t *testing.T) answer {
	if c.want == "" {
		return asItIs(c.nodes(t))
	}
	return answer{letterTree(t, c.want), true}
}

func TestBranchOfElements(t *testing.T) {
	for _, c := range []branchCase{
		{"<a/>", 0, "<a/>"},
		{"<a>x<b><c/></b>y</a>", 0, "<a>x<b><c/></b>y</a>"}, {"<a>x<b><c/></b>y</a>", 2, "<b><c/></b>"}, {"<a>x<b><c/></b>y</a>", 3, "<c/>"},
		{"<a><b/><c/></a>", 1, "<b/>"}, {"<a><b/><c/></a>", 2, "<c/>"}, {"<a><b/><c>x</c></a>", 2, "<c>x</c>"},
		{"<a><b><c><d>x</d>y</c>z</b><e/></a>", 1, "<b><c><d>x</d>y</c>z</b>"}, {"<a><b><c><d>x</d>y</c>z</b><e/></a>", 2, "<c><d>x</d>y</c>"}, {"<a><b><c><d>x</d>y</c>z</b><e/></a>", 3, "<d>x</d>"}, {"<a><b><c><d>x</d>y</c>z</b><e/></a>", 7, "<e/>"},
		{"<a>w<b>x</b>y<b>z</b></a>", 2, "<b>x</b>"}, {"<a>w<b>x</b>y<b>z</b></a>", 5, "<b>z</b>"},
		{`<a x="1"><p:b ns:p="u" y="&lt;&quot;" z="">&amp;<c w=">"/></p:b></a>`, 1, `<p:b ns:p="u" y="&lt;&quot;" z="">&amp;<c w=">"/></p:b>`},
	} {
		wantBranch(t, c.nodes(t), c.at, c.answer(t))
	}
	nodes := middleTree()
	wantBranch(t, nodes, 0, answer{nodes, true})
	wantBranch(t, nodes, 2, answer{[]impl.Node{element(-1, "b"), element(0, "c", "y", "2", "z", ""), textNode(1, "q"), element(1, "d"), textNode(0, "r")}, true})
	wantBranch(t, nodes, 3, answer{[]impl.Node{element(-1, "c", "y", "2", "z", ""), textNode(0, "q"), element(0, "d")}, true})
	wantBranch(t, nodes, 5, answer{[]impl.Node{element(-1, "d")}, true})
	wantBranch(t, nodes, 7, answer{[]impl.Node{element(-1, "e")}, true})
	wantBranch(t, nodes, 9, answer{[]impl.Node{element(-1, "f"), textNode(0, "t")}, true})
	for _, text := range []int64{1, 4, 6, 8, 10} {
		wantBranch(t, nodes, text, answer{})
	}
}

func TestPrunedOfNodes(t *testing.T) {
	for _, c := range []branchCase{
		{"<a><b/></a>", 1, "<a/>"}, {"<a>x</a>", 1, "<a/>"}, {"<a><b><c/>x</b></a>", 1, "<a/>"}, {"<a><b><c/>x</b></a>", 2, "<a><b>x</b></a>"}, {"<a><b><c/>x</b></a>", 3, "<a><b><c/></b></a>"},
		{"<a><b/><c/><d/></a>", 1, "<a><c/><d/></a>"}, {"<a><b/><c/><d/></a>", 2, "<a><b/><d/></a>"}, {"<a><b/><c/><d/></a>", 3, "<a><b/><c/></a>"},
		{"<a><b/>x<d/></a>", 2, "<a><b/><d/></a>"}, {"<a>x<b/></a>", 1, "<a><b/></a>"}, {"<a><b/>x</a>", 2, "<a><b/></a>"}, {"<a>x<b/>y</a>", 1, "<a><b/>y</a>"}, {"<a>x<b/>y</a>", 3, "<a>x<b/></a>"},
		{"<a>x<b/>y</a>", 2, "<a>xy</a>"}, {"<a>x<b><c>z</c>w</b>y</a>", 2, "<a>xy</a>"}, {"<a>x<b><c>z</c>w</b>y</a>", 3, "<a>x<b>w</b>y</a>"}, {"<a>x<b>w<c/>z</b>y</a>", 4, "<a>x<b>wz</b>y</a>"},
		{"<a>x<b/><c/>y</a>", 2, "<a>x<c/>y</a>"}, {"<a>x<b/><c/>y</a>", 3, "<a>x<b/>y</a>"}, {"<a><b/>x<c/>y<d/></a>", 3, "<a><b/>xy<d/></a>"},
		// Texts that are no sisters do not come to stand side by side.
		{"<a><b>x</b><c/>y</a>", 3, "<a><b>x</b>y</a>"}, {"<a>x<c/><b>y</b></a>", 2, "<a>x<b>y</b></a>"}, {"<a>x<b><c/></b>y</a>", 3, "<a>x<b/>y</a>"}, {"<a><b>x<c/></b>y</a>", 3, "<a><b>x</b>y</a>"}, {"<a><b>x</b>y</a>", 2, "<a><b/>y</a>"}, {"<a><b>x<c>z</c></b>y</a>", 3, "<a><b>x</b>y</a>"},
		{"<a>x<b/>y<b/>z</a>", 2, "<a>xy<b/>z</a>"}, {"<a>x<b/>y<b/>z</a>", 4, "<a>x<b/>yz</a>"}, {"<a>x<b/>y<b/>z</a>", 3, "<a>x<b/><b/>z</a>"},
		{"<a>x<b>w</b>y<c><d>z</d></c>v</a>", 2, "<a>xy<c><d>z</d></c>v</a>"}, {`<a q="1">&lt;<b r="2"/>&amp;<c s="3"/></a>`, 2, `<a q="1">&lt;&amp;<c s="3"/></a>`}, {"<a>&amp;<b/>lt;</a>", 2, "<a>&amp;lt;</a>"},
		{"<a/>", 0, ""}, {"<a>x<b/>y</a>", 0, ""}, {"<a>x<b/>y</a>", 4, ""}, {"<a>x<b/>y</a>", -1, ""},
	} {
		wantPruned(t, c.nodes(t), c.at, c.answer(t))
	}
}

func TestGraftedIntoElements(t *testing.T) {
	for _, c := range []struct {
		branchCase
		branch string
	}{
		{branchCase{"<a/>", 0, "<a><z/></a>"}, "<z/>"}, {branchCase{"<a/>", 0, "<a><z>w<y/></z></a>"}, "<z>w<y/></z>"}, {branchCase{"<a/>", 0, "<a><a/></a>"}, "<a/>"},
		{branchCase{"<a><b/></a>", 0, "<a><b/><z/></a>"}, "<z/>"}, {branchCase{"<a><b/></a>", 1, "<a><b><z/></b></a>"}, "<z/>"}, {branchCase{"<a><b/><c/></a>", 1, "<a><b><z/></b><c/></a>"}, "<z/>"}, {branchCase{"<a><b/><c/></a>", 0, "<a><b/><c/><z/></a>"}, "<z/>"},
		{branchCase{"<a>x</a>", 0, "<a>x<z/></a>"}, "<z/>"}, {branchCase{"<a>x</a>", 0, "<a>x<z>w</z></a>"}, "<z>w</z>"}, {branchCase{"<a><b>x</b>y</a>", 1, "<a><b>x<z>w</z></b>y</a>"}, "<z>w</z>"},
		{branchCase{"<a><b><c>x</c></b><d><e/></d>y</a>", 1, "<a><b><c>x</c><z><y/>w</z></b><d><e/></d>y</a>"}, "<z><y/>w</z>"}, {branchCase{"<a><b><c>x</c></b><d><e/></d>y</a>", 2, "<a><b><c>x<z><y/>w</z></c></b><d><e/></d>y</a>"}, "<z><y/>w</z>"},
		{branchCase{"<a><b><c>x</c></b><d><e/></d>y</a>", 4, "<a><b><c>x</c></b><d><e/><z><y/>w</z></d>y</a>"}, "<z><y/>w</z>"}, {branchCase{"<a><b><c>x</c></b><d><e/></d>y</a>", 5, "<a><b><c>x</c></b><d><e><z><y/>w</z></e></d>y</a>"}, "<z><y/>w</z>"}, {branchCase{"<a><b><c>x</c></b><d><e/></d>y</a>", 0, "<a><b><c>x</c></b><d><e/></d>y<z><y/>w</z></a>"}, "<z><y/>w</z>"},
		{branchCase{"<a><b><c>x</c></b><d><e/></d>y</a>", 3, ""}, "<z/>"}, {branchCase{"<a><b><c>x</c></b><d><e/></d>y</a>", 6, ""}, "<z/>"}, {branchCase{"<a><b/></a>", 2, ""}, "<z/>"}, {branchCase{"<a><b/></a>", -1, ""}, "<z/>"},
		{branchCase{`<a x="1"/>`, 0, `<a x="1"><p:z ns:p="u" y="&lt;">&amp;</p:z></a>`}, `<p:z ns:p="u" y="&lt;">&amp;</p:z>`},
	} {
		wantGrafted(t, c.nodes(t), c.at, letterTree(t, c.branch), c.answer(t))
	}
}

func TestWrappedElements(t *testing.T) {
	for _, c := range []branchCase{
		{"<a><b/></a>", 1, "<a><w><b/></w></a>"}, {"<a><b>x</b></a>", 1, "<a><w><b>x</b></w></a>"}, {"<a><b><c>x</c>y</b></a>", 1, "<a><w><b><c>x</c>y</b></w></a>"}, {"<a><b><c>x</c>y</b></a>", 2, "<a><b><w><c>x</c></w>y</b></a>"},
		{"<a><b/><c/><d/></a>", 1, "<a><w><b/></w><c/><d/></a>"}, {"<a><b/><c/><d/></a>", 2, "<a><b/><w><c/></w><d/></a>"}, {"<a><b/><c/><d/></a>", 3, "<a><b/><c/><w><d/></w></a>"},
		{"<a>x<b><c/></b>y</a>", 2, "<a>x<w><b><c/></b></w>y</a>"}, {"<a>x<b><c/></b>y</a>", 3, "<a>x<b><w><c/></w></b>y</a>"},
		{"<a><b><c/></b><d><e>x</e><f/></d></a>", 1, "<a><w><b><c/></b></w><d><e>x</e><f/></d></a>"}, {"<a><b><c/></b><d><e>x</e><f/></d></a>", 3, "<a><b><c/></b><w><d><e>x</e><f/></d></w></a>"},
		{`<a x="1"><b y="2" z="&quot;"/></a>`, 1, `<a x="1"><w><b y="2" z="&quot;"/></w></a>`}, {"<w><w><w/></w></w>", 1, "<w><w><w><w/></w></w></w>"},
		{"<a/>", 0, ""}, {"<a><b/></a>", 0, ""}, {"<a><b/></a>", 2, ""}, {"<a><b/></a>", -1, ""}, {"<a>x<b/></a>", 1, ""}, {"<a><b>x</b></a>", 2, ""},
	} {
		wantWrapped(t, c.nodes(t), c.at, "w", c.answer(t))
	}
}

// The Parents of all Nodes, and of those further on above all, by hand.
func TestParentsFurtherOn(t *testing.T) {
	nodes := middleTree()
	wantPruned(t, nodes, 1, answer{[]impl.Node{nodes[0], element(0, "b"), element(1, "c", "y", "2", "z", ""), textNode(2, "q"), element(2, "d"), textNode(1, "r"), element(0, "e"), textNode(0, "s"), element(0, "f"), textNode(8, "t")}, true})
	wantPruned(t, nodes, 2, answer{[]impl.Node{nodes[0], nodes[1], element(0, "e"), textNode(0, "s"), element(0, "f"), textNode(4, "t")}, true})
	wantPruned(t, nodes, 3, answer{[]impl.Node{nodes[0], nodes[1], element(0, "b"), textNode(2, "r"), element(0, "e"), textNode(0, "s"), element(0, "f"), textNode(6, "t")}, true})
	wantPruned(t, nodes, 9, answer{nodes[:9], true})
	wantPruned(t, nodes, 10, answer{nodes[:10], true})
	joining := letterTree(t, "<a><b>x<c/>y<d>z</d></b><e><f/></e></a>")
	wantPruned(t, joining, 3, answer{[]impl.Node{element(-1, "a"), element(0, "b"), textNode(1, "xy"), element(1, "d"), textNode(3, "z"), element(0, "e"), element(5, "f")}, true})
	branch := []impl.Node{element(-1, "u"), element(0, "v"), textNode(1, "w")}
	wantGrafted(t, nodes, 2, branch, answer{append(middleTree()[:7], element(2, "u"), element(7, "v"), textNode(8, "w"), element(0, "e"), textNode(0, "s"), element(0, "f"), textNode(12, "t")), true})
	wantGrafted(t, nodes, 5, branch, answer{append(middleTree()[:6], element(5, "u"), element(6, "v"), textNode(7, "w"), textNode(2, "r"), element(0, "e"), textNode(0, "s"), element(0, "f"), textNode(12, "t")), true})
	wantGrafted(t, nodes, 0, branch, answer{append(middleTree(), element(0, "u"), element(11, "v"), textNode(12, "w")), true})
	wantWrapped(t, nodes, 3, "w", answer{append(middleTree()[:3], element(2, "w"), element(3, "c", "y", "2", "z", ""), textNode(4, "q"), element(4, "d"), textNode(2, "r"), element(0, "e"), textNode(0, "s"), element(0, "f"), textNode(10, "t")), true})
	wantWrapped(t, nodes, 7, "w", answer{append(middleTree()[:7], element(0, "w"), element(7, "e"), textNode(0, "s"), element(0, "f"), textNode(10, "t")), true})
	wantWrapped(t, nodes, 9, "w", answer{append(middleTree()[:9], element(0, "w"), element(9, "f"), textNode(10, "t")), true})
}

func TestPrunedOfLongestTexts(t *testing.T) {
	for first := 1; first <= 60; first++ {
		for second := 1; second <= 60; second++ {
			if first+second < 58 || first+second > 63 && first < 59 && second < 59 {
				continue
			}
			ahead, behind := strings.Repeat("&", first), strings.Repeat("<", second)
			nodes := []impl.Node{element(-1, "a"), textNode(0, ahead), element(0, "b"), element(2, "c"), textNode(0, behind), element(0, "d"), textNode(5, "x")}
			want := asItIs(nodes)
			if first+second <= 60 {
				want = answer{[]impl.Node{element(-1, "a"), textNode(0, ahead+behind), element(0, "d"), textNode(2, "x")}, true}
			}
			wantPruned(t, nodes, 2, want)
			wantPruned(t, nodes, 3, answer{[]impl.Node{nodes[0], nodes[1], nodes[2], nodes[4], element(0, "d"), textNode(4, "x")}, true})
		}
	}
	full := strings.Repeat("v", 60)
	nodes := []impl.Node{element(-1, "a"), textNode(0, full), element(0, "b"), textNode(2, full), textNode(0, "x")}
	wantPruned(t, nodes, 2, asItIs(nodes))
	wantPruned(t, nodes, 1, answer{[]impl.Node{element(-1, "a"), element(0, "b"), textNode(1, full), textNode(0, "x")}, true})
	wantPruned(t, nodes, 3, answer{[]impl.Node{element(-1, "a"), textNode(0, full), element(0, "b"), textNode(0, "x")}, true})
	wantPruned(t, nodes, 4, answer{nodes[:4], true})
}

// wide has so many Nodes, each but the first in it.
func wide(count int) []impl.Node {
	nodes := []impl.Node{element(-1, "a")}
	for len(nodes) < count {
		nodes = append(nodes, element(0, "b"))
	}
	return nodes
}

func TestBranchesOfMostNodes(t *testing.T) {
	for count := 1; count <= 50; count++ {
		nodes := wide(count)
		for _, more := range []int{1, 49 - count, 50 - count, 51 - count, 52 - count, 50} {
			if more < 1 || more > 50 {
				continue
			}
			got, ok := impl.Grafted(nodes, 0, wide(more))
			if within := count+more <= 50; ok != within || within && len(got) != count+more || !within && len(got) != count {
				t.Errorf("Grafted of %d Nodes to %d: %d, %v", more, count, len(got), ok)
			}
			wantGrafted(t, nodes, 0, wide(more), told(expectedGrafted(nodes, 0, wide(more))))
			wantGrafted(t, nodes, int64(count)-1, wide(more), told(expectedGrafted(nodes, int64(count)-1, wide(more))))
		}
		if got, ok := impl.Wrapped(nodes, int64(count)-1, "w"); ok != (count > 1 && count < 50) || ok && len(got) != count+1 || !ok && len(got) != count {
			t.Errorf("Wrapped of %d Nodes: %d, %v", count, len(got), ok)
		}
		checkBranches(t, nodes, wide(1), "w")
	}
	wantGrafted(t, wide(50), 0, wide(1), asItIs(wide(50)))
	wantGrafted(t, wide(50), 49, wide(1), asItIs(wide(50)))
	wantGrafted(t, wide(49), 0, wide(1), answer{append(wide(49), element(0, "a")), true})
	wantWrapped(t, wide(50), 1, "w", asItIs(wide(50)))
	wantWrapped(t, wide(49), 48, "w", answer{append(wide(48), element(0, "w"), element(48, "b")), true})
	wantPruned(t, wide(50), 49, answer{wide(49), true})
	wantBranch(t, wide(50), 0, answer{wide(50), true})
	wantGrafted(t, wide(1), 0, wide(51), asItIs(wide(1)))
}

func TestBranchesOfMostDepth(t *testing.T) {
	for depth := 1; depth <= 9; depth++ {
		for more := 1; more <= 9; more++ {
			nodes, last := append(chain(depth), element(0, "z")), int64(depth)-1
			for at := range int64(len(nodes)) {
				wantGrafted(t, nodes, at, chain(more), told(expectedGrafted(nodes, at, chain(more))))
			}
			got, ok := impl.Grafted(chain(depth), last, chain(more))
			if within := depth+more <= 9; ok != within || within && !sameTree(got, chain(depth+more)) || !within && !sameTree(got, chain(depth)) {
				t.Errorf("Grafted of %d in one another in %d: %+v, %v", more, depth, got, ok)
			}
			// A text is in its element, too.
			withText := chain(more, textNode(0, "x"))
			if _, ok := impl.Grafted(chain(depth), last, withText); ok != (depth+more+1 <= 9) {
				t.Errorf("Grafted of a text in %d, in %d: %v", more, depth, ok)
			}
		}
		for at := range int64(depth) {
			got, ok := impl.Wrapped(chain(depth), at, "a")
			if within := at > 0 && depth < 9; ok != within || within && !sameTree(got, chain(depth+1)) || !within && !sameTree(got, chain(depth)) {
				t.Errorf("Wrapped of %d in one another, at %d: %+v, %v", depth, at, got, ok)
			}
			wantBranch(t, chain(depth), at, answer{chain(depth - int(at)), true})
		}
		checkBranches(t, chain(depth), chain(2), "w")
	}
	deep := chain(8, textNode(0, "x"))
	wantWrapped(t, deep, 7, "w", asItIs(deep))
	wantWrapped(t, deep, 1, "w", asItIs(deep))
	// Only what stands in the new one comes to stand deeper.
	beside := append(chain(9), element(0, "b"))
	wantWrapped(t, beside, 9, "w", answer{append(chain(9), element(0, "w"), element(9, "b")), true})
	wantGrafted(t, beside, 9, chain(7), told(expectedGrafted(beside, 9, chain(7))))
	wantGrafted(t, beside, 9, chain(8), asItIs(beside))
	wantGrafted(t, beside, 8, chain(1), asItIs(beside))
	wantGrafted(t, beside, 7, chain(1), told(expectedGrafted(beside, 7, chain(1))))
}

func TestWrappedByNames(t *testing.T) {
	nodes := letterTree(t, "<a>x<b><c/></b>y<d/></a>")
	try := func(name string, right bool) {
		t.Helper()
		want := asItIs(nodes)
		if right {
			want = answer{[]impl.Node{element(-1, "a"), textNode(0, "x"), element(0, name), element(2, "b"), element(3, "c"), textNode(0, "y"), element(0, "d")}, true}
		}
		wantWrapped(t, nodes, 2, name, want)
		wantWrapped(t, nodes, 0, name, asItIs(nodes))
		wantWrapped(t, nodes, 1, name, asItIs(nodes))
	}
	for _, c := range nameCases() {
		try(c.name, c.ok)
	}
	for length := range 25 {
		name := strings.Repeat("w", length)
		try(name, length >= 1 && length <= 10)
		try("p:"+name, length >= 1 && length <= 10)
		try(name+":p", length >= 1 && length <= 10)
		try(name+":"+name, length >= 1 && length <= 10)
	}
	for b := range 256 {
		letter := 'a' <= b && b <= 'z' || 'A' <= b && b <= 'Z'
		try(oneByte(b), letter)
		try("w"+oneByte(b), letter)
		try("w"+oneByte(b)+"w", letter || b == ':')
	}
	for _, name := range []string{"", ":", "<w>", "w>", "w/", "w x", " w", "w\n", "p:q:r", "\u00e9", strings.Repeat("w", 1<<20)} {
		try(name, false)
	}
}

func TestBranchesWhereThereIsNoNode(t *testing.T) {
	branch := letterTree(t, "<z>w</z>")
	for _, nodes := range [][]impl.Node{middleTree(), chain(9), wide(50), wide(1), letterTree(t, hiding)} {
		size := int64(len(nodes))
		for _, at := range append(farNumbers(), -1, -2, -size, size, size+1, 51, 256, 1<<32, 1<<32+2, math.MinInt64+2, math.MaxInt64, math.MinInt64) {
			if at < 0 || at >= size {
				wantRefused(t, nodes, at, branch, "w")
			}
		}
	}
	for _, text := range []int64{1, 4, 6, 8, 10} {
		wantBranch(t, middleTree(), text, answer{})
		wantGrafted(t, middleTree(), text, branch, asItIs(middleTree()))
		wantWrapped(t, middleTree(), text, "w", asItIs(middleTree()))
	}
	wantPruned(t, middleTree(), 0, asItIs(middleTree()))
	wantWrapped(t, middleTree(), 0, "w", asItIs(middleTree()))
}

// noTrees are wrong in one thing each, most of them.
func noTrees() [][]impl.Node {
	list := [][]impl.Node{
		nil, {}, {{}}, {textNode(-1, "x")}, {element(0, "a")}, {element(-2, "a")}, {element(1, "a")}, {element(-1, "1")}, {element(-1, "a", "x", "1", "x", "2")}, {element(-1, "a", "x", "\t")}, {{Parent: -1, Name: "a", Text: "x"}},
		{element(-1, "a"), element(-1, "b")}, {element(-1, "a"), element(1, "b")}, {element(-1, "a"), element(2, "b"), element(1, "c")}, {element(-1, "a"), {Parent: 0}}, {element(-1, "a"), textNode(0, strings.Repeat("v", 61))}, {element(-1, "a"), textNode(0, "\xff")},
		{element(-1, "a"), textNode(0, "x"), textNode(0, "y")}, {element(-1, "a"), textNode(0, "x"), element(1, "b")}, {element(-1, "a"), element(0, "b"), element(0, "c"), element(1, "d")}, {element(math.MaxInt64, "a")}, {element(math.MinInt64, "a")}, {element(-1, "a"), element(math.MaxInt64, "b")}, {element(-1, "a"), element(math.MinInt64, "b")},
		chain(10), chain(9, textNode(0, "x")), wide(51), make([]impl.Node, 51), slices.Repeat([]impl.Node{element(-1, "a")}, 1<<16), slices.Repeat([]impl.Node{element(0, "a")}, 1000),
	}
	for at := range middleTree() {
		wrong, other := middleTree(), middleTree()
		wrong[at].Name = "1"
		other[at].Parent = int64(at)
		list = append(list, wrong, other)
	}
	return list
}

func TestBranchesOfNoTree(t *testing.T) {
	branch := letterTree(t, "<z>w</z>")
	for _, nodes := range noTrees() {
		for _, at := range []int64{-1, 0, 1, 2, 3, 9, 10, 11, 50, 51, math.MaxInt64, math.MinInt64} {
			wantRefused(t, nodes, at, branch, "w")
			wantRefused(t, nodes, at, nodes, "1")
		}
	}
}

func TestGraftedOfNoTree(t *testing.T) {
	for _, branch := range noTrees() {
		for _, nodes := range [][]impl.Node{middleTree(), wide(1), chain(9), wide(50)} {
			for at := int64(-1); at <= int64(len(nodes)); at++ {
				wantGrafted(t, nodes, at, branch, asItIs(nodes))
			}
		}
	}
	// A piece of a tree is none before its Parents are told anew.
	nodes := middleTree()
	wantGrafted(t, nodes, 7, nodes[2:7], asItIs(nodes))
	wantGrafted(t, nodes, 7, nodes[9:], asItIs(nodes))
	wantGrafted(t, nodes, 7, nodes[:9], told(expectedGrafted(nodes, 7, nodes[:9])))
}

// Each tree of a few Nodes, at each place: the answers are those of the words of the chapter.
func TestBranchesOfShortTrees(t *testing.T) {
	var below []impl.Node
	for parent := range int64(5) {
		below = append(below, element(parent, "b"), textNode(parent, "x"))
	}
	trees := 0
	eachList(below, 5, func(rest []impl.Node) {
		nodes := append([]impl.Node{element(-1, "a")}, rest...)
		if !expectedTreeOk(nodes) {
			return
		}
		trees++
		for _, branch := range []string{"<z/>", "<z>w</z>", "<z><y/>w<x><v/></x></z>"} {
			checkBranches(t, nodes, letterTree(t, branch), "w")
		}
		checkBranches(t, nodes, nodes, "p:w")
	})
	if trees < 200 {
		t.Errorf("only %d trees", trees)
	}
}

// Promise 10: a Branch that is Grafted is there, as the last of what the element has; and Pruned again it leaves the tree that was.
func TestABranchThatIsGraftedIsThere(t *testing.T) {
	grafted, refused, among := 0, 0, 0
	for seed := range 120 {
		nodes, other := strewnTree(seed), strewnTree(3*seed+1)
		for from := range int64(len(other)) {
			branch, ok := impl.Branch(other, from)
			if !ok {
				continue
			}
			at := int64(dice(int(from) + seed)(len(nodes)))
			got, ok := impl.Grafted(nodes, at, branch)
			wantGrafted(t, nodes, at, branch, answer{got, ok})
			if !ok {
				refused++
				continue
			}
			grafted++
			place := impl.EndOf(nodes, at)
			if place < int64(len(nodes)) {
				among++
			}
			kids := append(impl.KidsOf(nodes, at), place)
			if !impl.TreeOk(got) || len(got) != len(nodes)+len(branch) || !slices.Equal(impl.KidsOf(got, at), kids) {
				t.Fatalf("Grafted(%+v, %d, %+v) = %+v", nodes, at, branch, got)
			}
			wantBranch(t, got, place, answer{branch, true})
			wantPruned(t, got, place, answer{nodes, true})
		}
	}
	if grafted < 500 || refused < 500 || among < 300 {
		t.Errorf("%d were Grafted, %d of them among others, %d refused", grafted, among, refused)
	}
}

// aroundMark tells what a tree shows ahead of the element there, and behind it.
func aroundMark(t *testing.T, nodes []impl.Node, at int64) (string, string) {
	t.Helper()
	marked := slices.Clone(nodes)
	marked[at].Name = "mark:here"
	shown := impl.ShowTree(marked)
	from, to := strings.Index(shown, "<mark:here"), strings.Index(shown, "</mark:here>")
	if from < 0 || to < 0 {
		t.Fatalf("%q shows no mark", shown)
	}
	return shown[:from], shown[to+len("</mark:here>"):]
}

// Promise 10: what is Pruned is not, and what stood around it is as it was.
func TestWhatIsPrunedIsNot(t *testing.T) {
	pruned, joined, refused := 0, 0, 0
	for seed := range 200 {
		nodes := strewnTree(seed)
		for at := int64(1); at < int64(len(nodes)); at++ {
			got, ok := impl.Pruned(nodes, at)
			wantPruned(t, nodes, at, answer{got, ok})
			branch, isElement := impl.Branch(nodes, at)
			if !isElement {
				continue
			}
			if !ok {
				refused++
				continue
			}
			pruned++
			if ahead, behind := aroundMark(t, nodes, at); impl.ShowTree(got) != ahead+behind {
				t.Fatalf("Pruned(%+v, %d) = %+v", nodes, at, got)
			}
			if len(got) < len(nodes)-len(branch) {
				joined++
			}
		}
	}
	if pruned < 1000 || joined < 50 || refused < 50 {
		t.Errorf("%d were Pruned, in %d of them texts were joined, %d were refused", pruned, joined, refused)
	}
}

// What is Wrapped is there in the new one, and what stood around it is as it was; Pruned with the new one it is not.
func TestWhatIsWrappedIsInTheNewOne(t *testing.T) {
	wrapped := 0
	for seed := range 200 {
		nodes := strewnTree(seed)
		for at := int64(1); at < int64(len(nodes)); at++ {
			got, ok := impl.Wrapped(nodes, at, "w")
			wantWrapped(t, nodes, at, "w", answer{got, ok})
			if !ok {
				continue
			}
			wrapped++
			branch, _ := impl.Branch(nodes, at)
			if ahead, behind := aroundMark(t, nodes, at); impl.ShowTree(got) != ahead+"<w>"+impl.ShowTree(branch)+"</w>"+behind {
				t.Fatalf("Wrapped(%+v, %d) = %+v", nodes, at, got)
			}
			wantBranch(t, got, at+1, answer{branch, true})
			if less, ok := impl.Pruned(nodes, at); ok {
				wantPruned(t, got, at, answer{less, true})
			} else {
				wantPruned(t, got, at, asItIs(got))
			}
		}
	}
	if wrapped < 1000 {
		t.Errorf("only %d were Wrapped", wrapped)
	}
}

// Promise 10: whatever is done one behind the other, it stays a tree, and each step is told by the words of the chapter.
func TestManyChangesOneBehindTheOther(t *testing.T) {
	done := 0
	for seed := range 150 {
		next := dice(seed)
		nodes := strewnTree(seed)
		for range 60 {
			at, from := int64(next(len(nodes))), int64(next(len(nodes)))
			var got, want answer
			switch next(3) {
			case 0:
				got, want = told(impl.Pruned(nodes, at)), told(expectedPruned(nodes, at))
			case 1:
				branch, _ := impl.Branch(nodes, from)
				got, want = told(impl.Grafted(nodes, at, branch)), told(expectedGrafted(nodes, at, branch))
			case 2:
				got, want = told(impl.Wrapped(nodes, at, "p:w")), told(expectedWrapped(nodes, at, "p:w"))
			}
			wantTold(t, "a change", nodes, at, got, want)
			if t.Failed() || !impl.TreeOk(got.nodes) {
				t.Fatalf("%+v is no tree", got.nodes)
			}
			nodes = got.nodes
			if got.ok {
				done++
			}
		}
	}
	if done < 3000 {
		t.Errorf("only %d changes were done", done)
	}
}

// wantOwn holds that an answer lies nowhere in the arguments, and the Nodes of it not in one another.
func wantOwn(t *testing.T, what string, got []impl.Node, trees ...laidTree) {
	t.Helper()
	for _, tree := range trees {
		if sharesRoom(got, tree.whole) {
			t.Errorf("%s lies in an argument", what)
		}
		wantApart(t, what, nodeTokens(got), nodeTokens(tree.nodes))
		tree.stays(t)
	}
}

// Promise 21 for chapter 10.
func TestBranchAnswersAreNewMemoryAndArgumentsStay(t *testing.T) {
	given := letterTree(t, `<z x="1" y="">w<y x="1"/></z>`)
	for _, wrong := range [][]impl.Node{given, noTrees()[1], noTrees()[8]} {
		branch := layTree(wrong)
		for _, nodes := range append(memoryTrees(), wide(50), letterTree(t, `<a x="1">x<b y="2"/>y<c z="3"/></a>`)) {
			tree, size := layTree(nodes), int64(len(nodes))
			for _, at := range []int64{-1, 0, 1, 2, size / 2, size - 1, size} {
				name, buffer := laid("w")
				cut, _ := impl.Branch(tree.nodes, at)
				wantOwn(t, "Branch", cut, tree)
				less, _ := impl.Pruned(tree.nodes, at)
				wantOwn(t, "Pruned", less, tree)
				more, _ := impl.Grafted(tree.nodes, at, branch.nodes)
				wantOwn(t, "Grafted", more, tree, branch)
				wrapped, _ := impl.Wrapped(tree.nodes, at, name)
				wantOwn(t, "Wrapped", wrapped, tree)
				if slices.ContainsFunc(wrapped, func(n impl.Node) bool { return sharesMemory(n.Name, name) }) || string(buffer) != "wspare room" {
					t.Errorf("the name became %q, or lies in %+v", buffer, wrapped)
				}
			}
		}
	}
}

// Promise 21 for chapter 10: the tree may be its own branch, and a branch may lie in the tree's memory.
func TestGraftedIntoItself(t *testing.T) {
	nodes := letterTree(t, `<a x="1">x<b><c y="2"/></b></a>`)
	tree := layTree(nodes)
	for _, branch := range [][]impl.Node{tree.nodes, tree.nodes[:1], tree.nodes[:3], tree.whole, tree.whole[:1:1]} {
		for at := range int64(4) {
			got, ok := impl.Grafted(tree.nodes, at, branch)
			wantTold(t, "Grafted", nodes, at, answer{got, ok}, told(expectedGrafted(nodes, at, branch)))
			wantOwn(t, "Grafted", got, tree)
		}
	}
}

// Promise 21 for chapter 10: an answer to whatever is given, nothing or the tree as it is where it is false, and the same one each time.
func TestBranchFunctionsAnswerEverywhere(t *testing.T) {
	parents := append(farNumbers(), -2, -1, -1, -1, 0, 0, 0, 0, 1, 1, 2, 3, 49, 50, 51)
	words := []string{"", "", "a", "a", "b:c", "1", "ÿ", "a:b:c"}
	values := []string{"", "x", "	", strings.Repeat("v", 60), strings.Repeat("v", 61)}
	strewnNodes := func(next func(int) int) []impl.Node {
		var nodes []impl.Node
		for range next(6) {
			name, s := words[next(len(words))], ""
			if name == "" {
				s = values[next(len(values))]
			}
			nodes = append(nodes, impl.Node{Parent: parents[next(len(parents))], Name: name, Attrs: attrs(name, s)[:next(5)/4], Text: s})
		}
		return nodes
	}
	for seed := range 20000 {
		next := dice(seed)
		nodes, branch, name := strewnNodes(next), strewnNodes(next), words[next(len(words))]
		if len(nodes) > 0 && next(2) == 0 {
			nodes[0] = element(-1, "a")
		}
		if next(2) == 0 {
			branch = strewnTree(next(40))
		}
		checkBranches(t, nodes, branch, name)
		wantRefused(t, nodes, parents[next(len(farNumbers()))], branch, name)
	}
}
