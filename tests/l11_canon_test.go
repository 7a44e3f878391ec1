package tests

import (
	"fmt"
	"maps"
	"math"
	"slices"
	"strings"
	"testing"

	"loop.example/g00379/impl"
)

// inOrder writes what lies under each key, the keys rising.
func inOrder(byKey map[string]string) string {
	out := ""
	for _, key := range slices.Sorted(maps.Keys(byKey)) {
		out += byKey[key]
	}
	return out
}

// expectedNeeded tells which prefixes an element of a NamesOk tree needs, by what they mean.
func expectedNeeded(t []impl.Node, at int64) map[string]string {
	needed := map[string]string{}
	own, _ := expectedParts(t[at].Name)
	needed[own], _ = expectedMeaning(t, at, own)
	for _, a := range t[at].Attrs {
		if prefix, _ := expectedParts(a.Name); prefix != "" && prefix != "ns" {
			needed[prefix], _ = expectedMeaning(t, at, prefix)
		}
	}
	return needed
}

// expectedOthers holds them under what they rise by; a byte 0 is below all that can stand in a Meaning.
func expectedOthers(t []impl.Node, at int64) map[string]string {
	others := map[string]string{}
	for _, a := range t[at].Attrs {
		if _, is := expectedDeclared(a); is {
			continue
		}
		prefix, local := expectedParts(a.Name)
		key := "\x00" + local
		if prefix != "" {
			meaning, _ := expectedMeaning(t, at, prefix)
			key = meaning + key
		}
		others[key] = fmt.Sprintf(` %s="%s"`, a.Name, expectedEscape(a.Value, true))
	}
	return others
}

// expectedFrom writes a Node of a NamesOk tree; said holds what the nearest written ones around declared.
func expectedFrom(t []impl.Node, at, but int64, said map[string]string) string {
	n := t[at]
	switch {
	case at == but:
		return ""
	case n.Name == "":
		return expectedEscape(n.Text, false)
	}
	declarations, within := map[string]string{}, maps.Clone(said)
	for prefix, meaning := range expectedNeeded(t, at) {
		was, did := said[prefix]
		if did && was == meaning || !did && prefix == "" && meaning == "" {
			continue
		}
		within[prefix] = meaning
		declarations[prefix] = fmt.Sprintf(` %s="%s"`, strings.TrimSuffix("ns:"+prefix, ":"), meaning)
	}
	out := "<" + n.Name + inOrder(declarations) + inOrder(expectedOthers(t, at)) + ">"
	for _, kid := range expectedKids(t, at) {
		out += expectedFrom(t, kid, but, within)
	}
	return out + "</" + n.Name + ">"
}

func expectedCanon(t []impl.Node, at, but int64) string {
	size := int64(len(t))
	if at < 0 || at >= size || but < -1 || but >= size || but == at || !expectedNamesOk(t) || t[at].Name == "" {
		return ""
	}
	return expectedFrom(t, at, but, map[string]string{})
}

func wantCanon(t *testing.T, nodes []impl.Node, at, but int64, want string) {
	t.Helper()
	if got := expectedCanon(nodes, at, but); got != want {
		t.Errorf("of %+v, %d, %d the oracle says %q, not %q", nodes, at, but, got, want)
	}
	wantWritten(t, nodes, at, but, want)
}

// wantWritten leaves the oracle aside.
func wantWritten(t *testing.T, nodes []impl.Node, at, but int64, want string) {
	t.Helper()
	if got := impl.Canon(nodes, at, but); got != want {
		t.Errorf("Canon(%+v, %d, %d) = %q, not %q", nodes, at, but, got, want)
	}
	if got := impl.CanonAll(nodes); at == 0 && but == -1 && got != want {
		t.Errorf("CanonAll(%+v) = %q, not %q", nodes, got, want)
	}
}

func wantSameCanon(t *testing.T, a, b []impl.Node, want bool) {
	t.Helper()
	if got := impl.SameCanon(a, b); got != want {
		t.Errorf("SameCanon(%+v, %+v) = %v", a, b, got)
	}
	if got := impl.SameCanon(b, a); got != want {
		t.Errorf("SameCanon(%+v, %+v) = %v", b, a, got)
	}
}

// checkCanon asks all that can be asked of Nodes, whatever they are.
func checkCanon(t *testing.T, nodes []impl.Node) {
	t.Helper()
	// It is asked of thousands: one that fails tells enough.
	if t.Failed() {
		t.FailNow()
	}
	size := int64(len(nodes))
	for at := int64(-2); at <= size+1; at++ {
		for but := int64(-3); but <= size+1; but++ {
			wantWritten(t, nodes, at, but, expectedCanon(nodes, at, but))
		}
	}
	wantSameCanon(t, nodes, nodes, expectedNamesOk(nodes))
}

// wantAllCanon holds what a letter as a whole is written like, and that this is written likewise again where it can be read.
func wantAllCanon(t *testing.T, letter, want string) {
	t.Helper()
	nodes := letterTree(t, letter)
	wantCanon(t, nodes, 0, -1, want)
	wantCanon(t, letterTree(t, want), 0, -1, want)
	wantSameCanon(t, nodes, letterTree(t, want), true)
	checkCanon(t, nodes)
	for i := range nodes {
		slices.Reverse(nodes[i].Attrs)
		wantCanon(t, nodes, 0, -1, want)
	}
}

func TestCanonOfElements(t *testing.T) {
	for _, c := range [][2]string{
		{`<a/>`, `<a></a>`}, {`<a></a>`, `<a></a>`}, {`<a>x</a>`, `<a>x</a>`}, {`<a><b/></a>`, `<a><b></b></a>`}, {`<a><b/><b/></a>`, `<a><b></b><b></b></a>`},
		{`<a>x<b/>y<c>z</c></a>`, `<a>x<b></b>y<c>z</c></a>`}, {`<a><b><c><d>x</d></c></b>y<e/></a>`, `<a><b><c><d>x</d></c></b>y<e></e></a>`},
		{`<a>x<!-- r -->y</a>`, `<a>xy</a>`}, {"<a> x\n </a>", "<a> x\n </a>"}, {`<a><!--r--><b/></a>`, `<a><b></b></a>`},
		{`<a x="1"/>`, `<a x="1"></a>`}, {`<a x=""><b y=" "/></a>`, `<a x=""><b y=" "></b></a>`},
		{`<abcdefghij:KLMNOPQRST ns:abcdefghij="u"/>`, `<abcdefghij:KLMNOPQRST ns:abcdefghij="u"></abcdefghij:KLMNOPQRST>`},
	} {
		wantAllCanon(t, c[0], c[1])
	}
}

func TestCanonDeclaresWhatIsNeeded(t *testing.T) {
	for _, c := range [][2]string{
		// On the element itself, needed or not.
		{`<p:a ns:p="u"/>`, `<p:a ns:p="u"></p:a>`}, {`<a ns="u"/>`, `<a ns="u"></a>`}, {`<a ns:p="u"/>`, `<a></a>`}, {`<p:a ns:p="u" ns="d" ns:q="w"/>`, `<p:a ns:p="u"></p:a>`}, {`<a ns:q="w" ns="d" ns:p="u"/>`, `<a ns="d"></a>`},
		{`<ns ns="u"/>`, `<ns ns="u"></ns>`}, {`<a ns:ns="u"/>`, `<a></a>`}, {`<a ns:a="u"/>`, `<a></a>`}, {`<p:p ns:p="./09az"/>`, `<p:p ns:p="./09az"></p:p>`},
		// By another Attr alone, by two, by the Name too.
		{`<a ns:p="u" p:x="1"/>`, `<a ns:p="u" p:x="1"></a>`}, {`<a p:x="1" ns:p="u" p:y="2"/>`, `<a ns:p="u" p:x="1" p:y="2"></a>`}, {`<p:a p:x="1" p:y="2" ns:p="u"/>`, `<p:a ns:p="u" p:x="1" p:y="2"></p:a>`},
		{`<p:a ns:q="w" q:x="1" ns:p="u"/>`, `<p:a ns:p="u" ns:q="w" q:x="1"></p:a>`}, {`<a ns:p="u" p:ns="A B"/>`, `<a ns:p="u" p:ns="A B"></a>`}, {`<a ns="d" ns:p="u" p:x="1"/>`, `<a ns="d" ns:p="u" p:x="1"></a>`},
		// An Attr without a prefix needs none.
		{`<p:a ns:p="u" ns="d" x="1"/>`, `<p:a ns:p="u" x="1"></p:a>`}, {`<a ns="u" x="1"/>`, `<a ns="u" x="1"></a>`}, {`<a x="1"/>`, `<a x="1"></a>`},
		// On one around that is written too.
		{`<p:a ns:p="u"><p:b/></p:a>`, `<p:a ns:p="u"><p:b></p:b></p:a>`}, {`<p:a ns:p="u"><b><p:c/></b></p:a>`, `<p:a ns:p="u"><b><p:c></p:c></b></p:a>`}, {`<p:a ns:p="u"><b>x<c><d p:x="1"/></c></b><p:e/></p:a>`, `<p:a ns:p="u"><b>x<c><d p:x="1"></d></c></b><p:e></p:e></p:a>`},
		{`<a ns:p="u" p:x="1"><p:b/></a>`, `<a ns:p="u" p:x="1"><p:b></p:b></a>`},
		// On one around that does not need it: each one that does declares it, but in another one that does.
		{`<a ns:p="u"><p:b/><p:c/></a>`, `<a><p:b ns:p="u"></p:b><p:c ns:p="u"></p:c></a>`}, {`<a ns:p="u"><b><p:c><p:d/></p:c></b><p:e/></a>`, `<a><b><p:c ns:p="u"><p:d></p:d></p:c></b><p:e ns:p="u"></p:e></a>`},
		{`<p:a ns:p="u" ns="d"><b/><b><c/></b></p:a>`, `<p:a ns:p="u"><b ns="d"></b><b ns="d"><c></c></b></p:a>`},
		// Further in, likewise.
		{`<p:a ns:p="u"><p:b ns:p="u"/></p:a>`, `<p:a ns:p="u"><p:b></p:b></p:a>`}, {`<a><p:b ns:p="u"/><p:c ns:p="u"/></a>`, `<a><p:b ns:p="u"></p:b><p:c ns:p="u"></p:c></a>`}, {`<p:a ns:p="u"><b ns:p="u"><p:c ns:p="u"/></b></p:a>`, `<p:a ns:p="u"><b><p:c></p:c></b></p:a>`},
		// Further in, otherwise.
		{`<p:a ns:p="u"><p:b ns:p="w"><p:c/></p:b><p:d/></p:a>`, `<p:a ns:p="u"><p:b ns:p="w"><p:c></p:c></p:b><p:d></p:d></p:a>`}, {`<p:a ns:p="u"><p:b ns:p="w"><p:c ns:p="u"/></p:b></p:a>`, `<p:a ns:p="u"><p:b ns:p="w"><p:c ns:p="u"></p:c></p:b></p:a>`},
		{`<p:a ns:p="u"><b ns:p="w"><p:c/></b></p:a>`, `<p:a ns:p="u"><b><p:c ns:p="w"></p:c></b></p:a>`}, {`<p:a ns:p="u"><b ns:p="w"><p:c ns:p="u"/></b></p:a>`, `<p:a ns:p="u"><b><p:c></p:c></b></p:a>`},
		{`<a><p:b ns:p="u"/><p:b ns:p="w"/><p:b ns:p="u"/></a>`, `<a><p:b ns:p="u"></p:b><p:b ns:p="w"></p:b><p:b ns:p="u"></p:b></a>`}, {`<p:a ns:p="u"><p:b ns:p="w"><c><p:d/></c></p:b></p:a>`, `<p:a ns:p="u"><p:b ns:p="w"><c><p:d></p:d></c></p:b></p:a>`},
	} {
		wantAllCanon(t, c[0], c[1])
	}
}

func TestCanonOfNoPrefix(t *testing.T) {
	for _, c := range [][2]string{
		{`<a ns=""/>`, `<a></a>`}, {`<a ns=""><b ns=""><c/></b></a>`, `<a><b><c></c></b></a>`}, {`<a ns="u"><b/></a>`, `<a ns="u"><b></b></a>`}, {`<a ns="u"><b ns="u"/></a>`, `<a ns="u"><b></b></a>`}, {`<a ns="u"><b ns="w"><c/></b><d/></a>`, `<a ns="u"><b ns="w"><c></c></b><d></d></a>`},
		{`<a ns="u"><b ns=""/></a>`, `<a ns="u"><b ns=""></b></a>`}, {`<a ns="u"><b ns=""><c ns=""><d/></c></b><e/></a>`, `<a ns="u"><b ns=""><c><d></d></c></b><e></e></a>`}, {`<a ns="u"><b ns=""><c ns="u"/></b></a>`, `<a ns="u"><b ns=""><c ns="u"></c></b></a>`},
		{`<a><b ns="u"><c ns=""/></b><d/></a>`, `<a><b ns="u"><c ns=""></c></b><d></d></a>`}, {`<a ns=""><b ns="u"><c ns=""><d ns="u"><e ns=""/></d></c></b></a>`, `<a><b ns="u"><c ns=""><d ns="u"><e ns=""></e></d></c></b></a>`},
		// Where the one that declares it has a prefix, nobody is told before it is needed.
		{`<a ns="u"><p:b ns:p="w" ns=""><c/></p:b></a>`, `<a ns="u"><p:b ns:p="w"><c ns=""></c></p:b></a>`}, {`<p:a ns:p="w" ns="u"><b ns=""/></p:a>`, `<p:a ns:p="w"><b></b></p:a>`}, {`<p:a ns:p="w" ns="u"><b/><c ns=""/></p:a>`, `<p:a ns:p="w"><b ns="u"></b><c></c></p:a>`},
		{`<a ns="u"><p:b ns:p="w" ns=""><p:c ns="u"><d/></p:c></p:b></a>`, `<a ns="u"><p:b ns:p="w"><p:c><d></d></p:c></p:b></a>`}, {`<a ns="u"><p:b ns:p="w" ns="" x="1"/></a>`, `<a ns="u"><p:b ns:p="w" x="1"></p:b></a>`}, {`<p:a ns:p="u" ns="u"><b/></p:a>`, `<p:a ns:p="u"><b ns="u"></b></p:a>`},
	} {
		wantAllCanon(t, c[0], c[1])
	}
}

func TestCanonOfWhatStandsInOthers(t *testing.T) {
	nodes := letterTree(t, hiding)
	for at, want := range []string{
		`<a ns="d"><b><p:c ns:p="w"></p:c></b>x<p:d ns:p="u"><e ns=""><p:f ns:p="h"></p:f></e></p:d></a>`,
		`<b ns="d"><p:c ns:p="w"></p:c></b>`, `<p:c ns:p="w"></p:c>`, ``, `<p:d ns:p="u"><e><p:f ns:p="h"></p:f></e></p:d>`, `<e><p:f ns:p="h"></p:f></e>`, `<p:f ns:p="h"></p:f>`,
	} {
		wantCanon(t, nodes, int64(at), -1, want)
	}
	for _, c := range []struct {
		letter string
		at     int64
		want   string
	}{
		{`<a ns="u"><b/></a>`, 1, `<b ns="u"></b>`}, {`<a ns="u"><b ns=""/></a>`, 1, `<b></b>`}, {`<a ns=""><b/></a>`, 1, `<b></b>`}, {`<p:a ns:p="u"><p:b/></p:a>`, 1, `<p:b ns:p="u"></p:b>`}, {`<p:a ns:p="u"><b/></p:a>`, 1, `<b></b>`},
		{`<p:a ns:p="u" ns:q="w"><b><c q:x="1"><p:d/></c></b></p:a>`, 2, `<c ns:q="w" q:x="1"><p:d ns:p="u"></p:d></c>`}, {`<a ns:p="u"><b ns:p="w"><p:c/></b></a>`, 2, `<p:c ns:p="w"></p:c>`}, {`<a ns:p="u"><b ns:p="w"/><p:c/></a>`, 2, `<p:c ns:p="u"></p:c>`},
		{`<a ns="d" ns:p="u" x="1"><b p:x="2">y</b>z</a>`, 1, `<b ns="d" ns:p="u" p:x="2">y</b>`}, {`<a>x<b/></a>`, 1, ``}, {`<a><b/>x</a>`, 2, ``}, {`<a><b/>x</a>`, 1, `<b></b>`},
	} {
		wantCanon(t, letterTree(t, c.letter), c.at, -1, c.want)
		checkCanon(t, letterTree(t, c.letter))
	}
}

// shuffled has the same Attrs in another order.
func shuffled(next func(int) int, nodes []impl.Node) []impl.Node {
	out := slices.Clone(nodes)
	for i := range out {
		list := slices.Clone(out[i].Attrs)
		for j := range list {
			other := j + next(len(list)-j)
			list[j], list[other] = list[other], list[j]
		}
		out[i].Attrs = list
	}
	return out
}

func TestCanonOfAttrsInWhateverOrder(t *testing.T) {
	for _, c := range []struct {
		around string
		pairs  []string
		want   string
	}{
		{``, []string{"a", "1", "b", "2", "c", "3"}, ` a="1" b="2" c="3"`},
		{``, []string{"x", "1", "xx", "2", "xX", "3", "y", "4", "Y", "5", "X", "6"}, ` X="6" Y="5" x="1" xX="3" xx="2" y="4"`},
		// By Meaning, whatever the prefix and the local are; without a prefix first.
		{` ns:p="w" ns:q="u"`, []string{"p:a", "1", "q:z", "2", "zz", "3"}, ` ns:p="w" ns:q="u" zz="3" q:z="2" p:a="1"`},
		{` ns:p="w" ns:q="u"`, []string{"p:x", "1", "q:x", "2", "x", "3"}, ` ns:p="w" ns:q="u" x="3" q:x="2" p:x="1"`},
		{` ns:p="u" ns:q="uu" ns:r="v"`, []string{"r:a", "1", "q:b", "2", "p:c", "3"}, ` ns:p="u" ns:q="uu" ns:r="v" p:c="3" q:b="2" r:a="1"`},
		{` ns:p="." ns:q="/" ns:r="0" ns:s="9" ns:t="a" ns:u="z"`, []string{"u:a", "1", "t:b", "2", "s:c", "3", "r:d", "4", "q:e", "5", "p:f", "6"}, ` ns:p="." ns:q="/" ns:r="0" ns:s="9" ns:t="a" ns:u="z" p:f="6" q:e="5" r:d="4" s:c="3" t:b="2" u:a="1"`},
		{` ns:p="z" ns:q="a" ns:r="9" ns:s="0" ns:t="/" ns:u="."`, []string{"p:x", "", "q:x", "", "r:x", "", "s:x", "", "t:x", "", "u:x", ""}, ` ns:p="z" ns:q="a" ns:r="9" ns:s="0" ns:t="/" ns:u="." u:x="" t:x="" s:x="" r:x="" q:x="" p:x=""`},
		// Two prefixes of one Meaning: by local.
		{` ns:p="u" ns:q="u"`, []string{"p:y", "1", "q:x", "2"}, ` ns:p="u" ns:q="u" q:x="2" p:y="1"`},
		{` ns:p="u" ns:q="u"`, []string{"p:x", "1", "q:y", "2", "p:z", "3"}, ` ns:p="u" ns:q="u" p:x="1" q:y="2" p:z="3"`},
		// Declarations by prefix: greater letters are less, a shorter one is ahead of a longer one.
		{` ns:p="u" ns:P="v" ns:pp="w" ns:nsx="x" ns:NS="y"`, []string{"p:a", "1", "P:a", "2", "pp:a", "3", "nsx:a", "4", "NS:a", "5"}, ` ns:NS="y" ns:P="v" ns:nsx="x" ns:p="u" ns:pp="w" p:a="1" P:a="2" pp:a="3" nsx:a="4" NS:a="5"`},
		{` ns="d" ns:p="u"`, []string{"p:x", "1", "y", "2"}, ` ns="d" ns:p="u" y="2" p:x="1"`},
	} {
		want := "<b" + c.want + "></b>"
		for turn := range len(c.pairs) {
			nodes := append(letterTree(t, "<a"+c.around+"/>"), element(0, "b", c.pairs...))
			wantCanon(t, shuffled(dice(turn), nodes), 1, -1, want)
		}
	}
}

func TestCanonOfSignsThatAreEscaped(t *testing.T) {
	wantAllCanon(t, `<a x="&amp;&lt;>&gt;&quot;'">&amp;&lt;&gt;"&quot;'</a>`, `<a x="&amp;&lt;>>&quot;'">&amp;&lt;&gt;""'</a>`)
	wantAllCanon(t, `<a ns:p="u" p:x="&amp;lt;"><b>&amp;lt;</b></a>`, `<a ns:p="u" p:x="&amp;lt;"><b>&amp;lt;</b></a>`)
	wantAllCanon(t, `<a>--&gt;&lt;/a&gt;</a>`, `<a>--&gt;&lt;/a&gt;</a>`)
	for b := range 256 {
		if !plainByte(b) {
			continue
		}
		s := oneByte(b)
		for _, value := range []string{s, s + s, "x" + s, s + "x"} {
			nodes := []impl.Node{element(-1, "a", "x", value), textNode(0, value), element(0, "p:b", "p:x", value, "ns:p", "u"), textNode(2, value)}
			wantCanon(t, nodes, 0, -1, fmt.Sprintf(`<a x="%s">%s<p:b ns:p="u" p:x="%s">%s</p:b></a>`, expectedEscape(value, true), expectedEscape(value, false), expectedEscape(value, true), expectedEscape(value, false)))
			wantCanon(t, nodes, 0, 1, fmt.Sprintf(`<a x="%s"><p:b ns:p="u" p:x="%s">%s</p:b></a>`, expectedEscape(value, true), expectedEscape(value, true), expectedEscape(value, false)))
			checkCanon(t, nodes)
		}
	}
}

func TestCanonButANode(t *testing.T) {
	const letter = `<a>x<b><c/>z</b>y<d/></a>`
	nodes := letterTree(t, letter)
	for but, want := range []string{
		``, `<a><b><c></c>z</b>y<d></d></a>`, `<a>xy<d></d></a>`, `<a>x<b>z</b>y<d></d></a>`, `<a>x<b><c></c></b>y<d></d></a>`, `<a>x<b><c></c>z</b><d></d></a>`, `<a>x<b><c></c>z</b>y</a>`,
	} {
		wantCanon(t, nodes, 0, int64(but), want)
	}
	wantCanon(t, nodes, 0, -1, `<a>x<b><c></c>z</b>y<d></d></a>`)
	wantCanon(t, nodes, 2, 3, `<b>z</b>`)
	wantCanon(t, nodes, 2, 4, `<b><c></c></b>`)
	// What is not in the element is not there to be left out.
	for _, but := range []int64{-1, 0, 1, 5, 6} {
		wantCanon(t, nodes, 2, but, `<b><c></c>z</b>`)
	}
	for but := int64(-1); but < 7; but++ {
		for at, want := range map[int64]string{1: ``, 3: `<c></c>`, 4: ``, 5: ``, 6: `<d></d>`} {
			if at == but {
				want = ``
			}
			wantCanon(t, nodes, at, but, want)
		}
	}
	checkCanon(t, nodes)
	for _, at := range []int64{0, 2, 3, 6} {
		wantCanon(t, nodes, at, at, "")
	}
	wantCanon(t, wide(1), 0, 0, "")
}

// What is left out declares nothing for the others, and what it needs is not declared for it.
func TestCanonButOneThatDeclares(t *testing.T) {
	for _, c := range []struct {
		letter  string
		at, but int64
		want    string
	}{
		{`<a ns:p="u"><p:b/><p:c/></a>`, 0, 1, `<a><p:c ns:p="u"></p:c></a>`}, {`<a ns:p="u"><p:b/><p:c/></a>`, 0, 2, `<a><p:b ns:p="u"></p:b></a>`}, {`<p:a ns:p="u"><p:b/></p:a>`, 0, 1, `<p:a ns:p="u"></p:a>`},
		{`<a><s:b ns:s="seal" Ref="i"/><c/></a>`, 0, 1, `<a><c></c></a>`}, {`<a><b ns="u"><c ns=""/></b></a>`, 0, 2, `<a><b ns="u"></b></a>`}, {`<a ns="u"><p:b ns:p="w" ns=""><c/>x<d/></p:b></a>`, 0, 2, `<a ns="u"><p:b ns:p="w">x<d ns=""></d></p:b></a>`},
		{`<a ns:p="u">x<b><p:c>y</p:c></b>z</a>`, 0, 2, `<a>xz</a>`}, {`<a ns:p="u">x<b><p:c>y</p:c></b>z</a>`, 2, 3, `<b></b>`}, {`<a ns:p="u">x<b><p:c>y</p:c></b>z</a>`, 2, 4, `<b><p:c ns:p="u"></p:c></b>`}, {`<a ns:p="u">x<b><p:c>y</p:c></b>z</a>`, 3, 2, `<p:c ns:p="u">y</p:c>`},
		{`<a>&lt;<b/>&gt;</a>`, 0, 2, `<a>&lt;&gt;</a>`}, {`<a>&amp;<b/>lt;</a>`, 0, 2, `<a>&amp;lt;</a>`}, {`<a><b/>x<c/></a>`, 0, 2, `<a><b></b><c></c></a>`},
	} {
		wantCanon(t, letterTree(t, c.letter), c.at, c.but, c.want)
		checkCanon(t, letterTree(t, c.letter))
	}
}

// Texts that stand side by side without what was between may be longer than one may be: they are written, though none can read them.
func TestCanonOfTextsSideBySide(t *testing.T) {
	for length := 1; length <= 60; length++ {
		ahead, behind := strings.Repeat("x", length), strings.Repeat("y", 60)
		nodes := []impl.Node{element(-1, "a"), textNode(0, ahead), element(0, "b"), textNode(2, "z"), textNode(0, behind[:31])}
		want := "<a>" + ahead + behind[:31] + "</a>"
		wantCanon(t, nodes, 0, 2, want)
		if _, ok := impl.ReadTree(want); ok != (length <= 29) {
			t.Errorf("ReadTree(%q) tells %v", want, ok)
		}
		nodes[4].Text = behind
		wantCanon(t, nodes, 0, 2, "<a>"+ahead+behind+"</a>")
	}
}

func TestCanonOfMostAttrs(t *testing.T) {
	around, within := element(-1, "z:a", "ns", "u", "ns:p", "u", "ns:q", "v", "ns:r", "w", "ns:s", "x", "ns:z", "y"), element(0, "z:b", "ns:t", "z", "t:x", "6", "s:x", "5", "r:x", "4", "q:x", "3", "p:x", "2")
	nodes := []impl.Node{around, within, element(1, "c")}
	want := `<z:b ns:p="u" ns:q="v" ns:r="w" ns:s="x" ns:t="z" ns:z="y" p:x="2" q:x="3" r:x="4" s:x="5" t:x="6"><c ns="u"></c></z:b>`
	wantCanon(t, nodes, 1, -1, want)
	if _, ok := impl.ReadTree(want); ok {
		t.Errorf("%q has too many Attrs to be read", want)
	}
	wantCanon(t, nodes, 0, 1, `<z:a ns:z="y"></z:a>`)
	wantCanon(t, nodes, 0, -1, `<z:a ns:z="y">`+strings.Replace(want, ` ns:z="y"`, "", 1)+`</z:a>`)
	// One more is no tree.
	nodes[1].Attrs = append(nodes[1].Attrs, attrs("x", "1")...)
	wantCanon(t, nodes, 1, -1, "")
	wantCanon(t, nodes, 2, -1, "")
}

func TestCanonOfMostNodes(t *testing.T) {
	for count := 49; count <= 51; count++ {
		nodes := wide(count)
		want := ""
		if count <= 50 {
			want = "<a>" + strings.Repeat("<b></b>", count-1) + "</a>"
		}
		wantCanon(t, nodes, 0, -1, want)
		wantSameCanon(t, nodes, nodes, count <= 50)
		last := int64(count) - 1
		if count <= 50 {
			wantCanon(t, nodes, 0, last, "<a>"+strings.Repeat("<b></b>", count-2)+"</a>")
			wantCanon(t, nodes, last, -1, "<b></b>")
			wantCanon(t, nodes, last, 0, "<b></b>")
		}
		wantCanon(t, nodes, last, last, "")
		wantCanon(t, nodes, last+1, -1, "")
		wantCanon(t, nodes, 0, last+1, "")
	}
	for depth := 1; depth <= 10; depth++ {
		want := ""
		if depth <= 9 {
			want = strings.Repeat("<a>", depth) + strings.Repeat("</a>", depth)
		}
		wantCanon(t, chain(depth), 0, -1, want)
		checkCanon(t, chain(depth))
	}
}

// What is longer than a letter may be is written, too.
func TestCanonOfMostSigns(t *testing.T) {
	nodes := []impl.Node{element(-1, "a")}
	want := "<a>"
	for range 24 {
		value := strings.Repeat("&", 60)
		nodes = append(nodes, element(0, "b", "y", value, "x", value), textNode(int64(len(nodes)), value))
		escaped := strings.Repeat("&amp;", 60)
		want += `<b x="` + escaped + `" y="` + escaped + `">` + escaped + `</b>`
	}
	wantCanon(t, nodes, 0, -1, want+"</a>")
	wantSameCanon(t, nodes, nodes, true)
}

func TestSameCanon(t *testing.T) {
	const letter = `<p:a x="1" ns:p="u" y="2"><b p:z="3" p:y="4">text</b><p:c/></p:a>`
	for _, same := range []string{
		letter, `<p:a ns:p="u" x="1" y="2"><b p:y="4" p:z="3">text</b><p:c></p:c></p:a>`, `<p:a y="2" x="1" ns:p="u"><b p:z="3" p:y="4">te<!--r-->xt</b><p:c/></p:a>`,
		`<p:a x="1" y="2" ns:p="u" ns:q="v"><b ns:p="u" p:z="3" p:y="4">text</b><p:c ns:p="u" ns="d"/></p:a>`,
	} {
		wantSameCanon(t, letterTree(t, letter), letterTree(t, same), true)
	}
	for _, other := range []string{
		// One byte of a text, of a Value, of a Name, of a Meaning; a prefix that means the same.
		`<p:a x="1" ns:p="u" y="2"><b p:z="3" p:y="4">texT</b><p:c/></p:a>`, `<p:a x="1" ns:p="u" y="2"><b p:z="3" p:y="5">text</b><p:c/></p:a>`, `<p:a x="1" ns:p="u" y="2"><b p:z="3" p:x="4">text</b><p:c/></p:a>`, `<p:a x="1" ns:p="v" y="2"><b p:z="3" p:y="4">text</b><p:c/></p:a>`,
		`<q:a x="1" ns:q="u" y="2"><b q:z="3" q:y="4">text</b><q:c/></q:a>`, `<p:a x="1" ns:p="u" y="2" ns="d"><b p:z="3" p:y="4">text</b><p:c/></p:a>`, `<p:a x="1" ns:p="u" y="2"><b p:z="3" p:y="4">text</b><p:c ns:p="v"/></p:a>`,
		// What is in it: in another order, more, less.
		`<p:a x="1" ns:p="u" y="2"><p:c/><b p:z="3" p:y="4">text</b></p:a>`, `<p:a x="1" ns:p="u" y="2"><b p:z="3" p:y="4">text</b></p:a>`, `<p:a x="1" ns:p="u" y="2"><b p:z="3" p:y="4">text</b><p:c/><p:c/></p:a>`, `<p:a x="1" ns:p="u" y="2"><b p:z="3" p:y="4">text<p:c/></b></p:a>`, `<p:a x="1" ns:p="u" y="2"><b p:z="3" p:y="4">text</b> <p:c/></p:a>`,
		`<p:a x="2" ns:p="u" y="1"><b p:z="3" p:y="4">text</b><p:c/></p:a>`, `<p:a x="1" ns:p="u"><b p:z="3" p:y="4">text</b><p:c/></p:a>`, `<a/>`,
	} {
		wantSameCanon(t, letterTree(t, letter), letterTree(t, other), false)
		wantSameCanon(t, letterTree(t, other), letterTree(t, other), true)
	}
	wantSameCanon(t, letterTree(t, `<a ns=""/>`), letterTree(t, `<a/>`), true)
	wantSameCanon(t, letterTree(t, `<a ns="u"/>`), letterTree(t, `<a/>`), false)
	wantSameCanon(t, letterTree(t, `<a x="1" y="2"/>`), letterTree(t, `<a y="2" x="1"/>`), true)
	wantSameCanon(t, letterTree(t, `<a>x</a>`), letterTree(t, `<a>y</a>`), false)
}

// wantNoCanon holds that there is none, whatever is asked.
func wantNoCanon(t *testing.T, nodes []impl.Node) {
	t.Helper()
	for _, at := range []int64{-1, 0, 1, 2, 9, 10, 49, 50, 51, math.MaxInt64, math.MinInt64} {
		for _, but := range []int64{-2, -1, 0, 1, 2, 10, math.MaxInt64, math.MinInt64} {
			wantCanon(t, nodes, at, but, "")
		}
	}
	wantSameCanon(t, nodes, nodes, false)
	wantSameCanon(t, nodes, wide(1), false)
	// Two that have no Canon have not the same one.
	wantSameCanon(t, nodes, nil, false)
}

func TestCanonOfNoTree(t *testing.T) {
	for _, nodes := range noTrees() {
		wantNoCanon(t, nodes)
	}
}

// What is not right makes all of it wrong, also where it is neither written nor around.
func TestCanonOfWrongNames(t *testing.T) {
	for _, letter := range wronglyNamed() {
		nodes := letterTree(t, letter)
		wantNoCanon(t, nodes)
		checkCanon(t, nodes)
		beside, ok := impl.Grafted(letterTree(t, `<a ns:o="u"><o:b/></a>`), 0, nodes)
		if !ok || impl.NamesOk(beside) {
			t.Fatalf("beside another one %q is %+v", letter, beside)
		}
		wantCanon(t, beside, 1, -1, "")
		wantCanon(t, beside, 0, 2, "")
	}
	nodes := letterTree(t, `<a><b/><q:c/></a>`)
	wantCanon(t, nodes, 1, -1, "")
	wantCanon(t, nodes, 0, 2, "")
}

func TestCanonWhereThereIsNoNode(t *testing.T) {
	for _, nodes := range [][]impl.Node{middleTree(), chain(9), wide(50), wide(1), letterTree(t, hiding)} {
		size := int64(len(nodes))
		for _, far := range append(farNumbers(), -2, -3, -size, -size-1, size, size+1, 51, 256, math.MaxInt64, math.MinInt64) {
			if far >= -1 && far < size {
				continue
			}
			wantCanon(t, nodes, far, -1, "")
			wantCanon(t, nodes, 0, far, "")
			wantCanon(t, nodes, size-1, far, "")
			wantCanon(t, nodes, far, 0, "")
			wantCanon(t, nodes, far, far, "")
		}
		wantCanon(t, nodes, -1, -1, "")
		wantCanon(t, nodes, -1, 0, "")
	}
	for _, text := range []int64{1, 4, 6, 8, 10} {
		for but := int64(-2); but <= 11; but++ {
			wantCanon(t, middleTree(), text, but, "")
		}
	}
}

// Each chain of three elements whose Names and Attrs are of a few: the answers are those of the words of the chapter.
func TestCanonOfShortChains(t *testing.T) {
	kinds := [][]impl.Attr{
		nil, attrs("ns", "u"), attrs("ns", ""), attrs("ns:p", "u"), attrs("ns:p", "v", "p:x", "1", "x", "2"), attrs("ns:q", "u", "ns", "v"), attrs("p:x", "1"), attrs("q:x", "1", "p:y", "2"), attrs("ns:p", "u", "ns:q", "u", "q:b", "<", "p:a", "\""),
	}
	right := 0
	eachChain(t, []string{"a", "p:a", "q:b"}, kinds, func(nodes []impl.Node) {
		if expectedNamesOk(nodes) {
			right++
		}
		for at := range int64(len(nodes)) {
			for but := int64(-1); but < int64(len(nodes)); but++ {
				wantWritten(t, nodes, at, but, expectedCanon(nodes, at, but))
			}
		}
	})
	if right < 3000 {
		t.Errorf("only %d chains are NamesOk", right)
	}
}

// saidPrefixes are those that have a Meaning at this element, no prefix among them.
func saidPrefixes(nodes []impl.Node, at int64) []string {
	var said []string
	for _, prefix := range []string{"", "p", "q", "r", "P"} {
		if _, ok := expectedMeaning(nodes, at, prefix); ok {
			said = append(said, prefix)
		}
	}
	return said
}

func named(prefix, local string) string { return strings.TrimPrefix(prefix+":"+local, ":") }

// declared is the Attr that does so.
func declared(prefix, meaning string) impl.Attr {
	return impl.Attr{Name: strings.TrimSuffix("ns:"+prefix, ":"), Value: meaning}
}

// addAttr adds one where there is room, and only if all stays NamesOk.
func addAttr(nodes []impl.Node, at int64, a impl.Attr) bool {
	was := nodes[at].Attrs
	nodes[at].Attrs = append(slices.Clone(was), a)
	if expectedTreeOk(nodes) && expectedElementNames(nodes, at) {
		return true
	}
	nodes[at].Attrs = was
	return false
}

// meaningTree is a strewn one that is NamesOk, with declarations all over it, needed and not.
func meaningTree(seed int) []impl.Node {
	next := dice(seed + 311)
	nodes := strewnTree(seed)
	for i := range nodes {
		if nodes[i].Name != "" {
			nodes[i].Name, nodes[i].Attrs = "a", nil
		}
	}
	for i, n := range nodes {
		if n.Name == "" {
			continue
		}
		at := int64(i)
		for range next(4) {
			prefix := []string{"", "", "p", "q", "r", "P"}[next(6)]
			addAttr(nodes, at, declared(prefix, []string{"u", "v", "w", "./0", ""}[next(5)]))
		}
		said := saidPrefixes(nodes, at)
		nodes[i].Name = named(said[next(len(said))], []string{"a", "b", "Claim"}[next(3)])
		for range next(4) {
			name := named(said[next(len(said))], []string{"x", "y", "xx", "X", "ns"}[next(5)])
			addAttr(nodes, at, impl.Attr{Name: name, Value: []string{"", "1", "<&>\"", " "}[next(4)]})
		}
		slices.SortFunc(nodes[i].Attrs, func(a, b impl.Attr) int { return next(3) - 1 })
	}
	return nodes
}

// butsOf are those that are asked of a great tree: none, some in it, some beside.
func butsOf(next func(int) int, nodes []impl.Node) []int64 {
	buts := []int64{-1}
	for range 4 {
		buts = append(buts, int64(next(len(nodes))))
	}
	return buts
}

// Promise 11: where it can be read it is NamesOk, and has the same Canon.
func TestCanonReadHasTheSameCanon(t *testing.T) {
	read, unread, without := 0, 0, 0
	for seed := range 300 {
		nodes := meaningTree(seed)
		if !impl.NamesOk(nodes) {
			t.Fatalf("%+v is not NamesOk", nodes)
		}
		wantCanon(t, nodes, 0, int64(seed%len(nodes)), expectedCanon(nodes, 0, int64(seed%len(nodes))))
		for at := range int64(len(nodes)) {
			for _, but := range butsOf(dice(seed+int(at)), nodes) {
				canon := impl.Canon(nodes, at, but)
				again, ok := impl.ReadTree(canon)
				if !ok {
					unread++
					continue
				}
				read++
				if but > at && but < impl.EndOf(nodes, at) {
					without++
				}
				if !impl.NamesOk(again) {
					t.Fatalf("%q is not NamesOk", canon)
				}
				wantWritten(t, again, 0, -1, canon)
			}
			if t.Failed() {
				t.FailNow()
			}
		}
	}
	if read < 5000 || unread < 1000 || without < 500 {
		t.Errorf("%d were read, %d of them without a Node, %d were not", read, without, unread)
	}
}

// redeclared is a tree whose Names mean the same: each element declares anew what is needed there and not said around, and now and then what is said already or nobody needs; false where it has no room for that.
func redeclared(next func(int) int, nodes []impl.Node) ([]impl.Node, bool) {
	out := slices.Clone(nodes)
	for i := range out {
		out[i].Attrs = slices.DeleteFunc(slices.Clone(out[i].Attrs), func(a impl.Attr) bool {
			_, is := expectedDeclared(a)
			return is
		})
	}
	for i := range out {
		if out[i].Name == "" {
			continue
		}
		at := int64(i)
		needed := expectedNeeded(nodes, at)
		for _, prefix := range slices.Sorted(maps.Keys(needed)) {
			meaning, ok := expectedMeaning(out, at, prefix)
			if !ok || meaning != needed[prefix] || next(3) == 0 {
				out[i].Attrs = append(out[i].Attrs, declared(prefix, needed[prefix]))
			}
		}
		for _, prefix := range []string{"", "p", "q", "nobody"} {
			if _, is := needed[prefix]; !is && len(out[i].Attrs) < 6 && next(4) == 0 {
				out[i].Attrs = append(out[i].Attrs, declared(prefix, []string{"u", "v", "new"}[next(3)]))
			}
		}
	}
	return out, expectedNamesOk(out)
}

// Promise 11: in whatever order Attrs stand, and wherever meanings are declared.
func TestCanonOfTheSameMeaningsIsTheSame(t *testing.T) {
	same, moved := 0, 0
	for seed := range 150 {
		next := dice(seed)
		nodes := meaningTree(seed)
		others := [][]impl.Node{shuffled(next, nodes)}
		for range 3 {
			other, ok := redeclared(next, nodes)
			if !ok {
				continue
			}
			others = append(others, shuffled(next, other))
			if !sameTree(other, nodes) {
				moved++
			}
		}
		for _, other := range others {
			same++
			wantSameCanon(t, nodes, other, true)
			for at := range int64(len(nodes)) {
				for _, but := range []int64{-1, int64(next(len(nodes)))} {
					if want, got := impl.Canon(nodes, at, but), impl.Canon(other, at, but); got != want {
						t.Fatalf("Canon(%+v, %d, %d) = %q, not %q", other, at, but, got, want)
					}
				}
			}
			if t.Failed() {
				t.FailNow()
			}
		}
	}
	if same < 300 || moved < 200 {
		t.Errorf("%d were the same, in %d of them meanings were declared elsewhere", same, moved)
	}
}

// What means another thing is written in another way.
func TestCanonOfAnotherMeaningIsAnother(t *testing.T) {
	changed, kept := 0, 0
	for seed := range 300 {
		next := dice(seed)
		nodes := meaningTree(seed)
		at := int64(next(len(nodes)))
		other := slices.Clone(nodes)
		for i, n := range other {
			other[i].Attrs = slices.Clone(n.Attrs)
		}
		n := &other[at]
		switch {
		case n.Name == "":
			n.Text = "other"
		case len(n.Attrs) > 0 && next(3) > 0:
			n.Attrs[next(len(n.Attrs))].Value = "other"
		default:
			n.Name = "other"
		}
		if !impl.NamesOk(other) {
			continue
		}
		canon := expectedCanon(other, 0, -1)
		wantCanon(t, other, 0, -1, canon)
		// A declaration that nobody needs may say what it likes.
		if canon == expectedCanon(nodes, 0, -1) {
			kept++
			wantSameCanon(t, nodes, other, true)
			continue
		}
		changed++
		wantSameCanon(t, nodes, other, false)
	}
	if changed < 150 || kept < 5 {
		t.Errorf("%d became others, %d did not", changed, kept)
	}
}

// Canon but a Node is Canon of the tree that is without it, where there is one; and where the Node is elsewhere, Canon of all.
func TestCanonButANodeIsThatOfThePrunedTree(t *testing.T) {
	pruned, elsewhere := 0, 0
	for seed := range 40 {
		nodes := meaningTree(seed)
		for but := int64(1); but < int64(len(nodes)); but++ {
			less, ok := impl.Pruned(nodes, but)
			for at := range but {
				got := impl.Canon(nodes, at, but)
				if but >= impl.EndOf(nodes, at) {
					elsewhere++
					wantWritten(t, nodes, at, -1, got)
				} else if ok {
					pruned++
					wantWritten(t, less, at, -1, got)
				}
			}
			if t.Failed() {
				t.FailNow()
			}
		}
	}
	if pruned < 1000 || elsewhere < 5000 {
		t.Errorf("%d were within what was Pruned, %d elsewhere", pruned, elsewhere)
	}
}

// What Canon wrote means the same wherever it is put, as long as nothing is said of no prefix there.
func TestCanonIsTheSameWhereverItStands(t *testing.T) {
	moved := 0
	for seed := range 150 {
		nodes := meaningTree(seed)
		for at := range int64(len(nodes)) {
			canon := impl.Canon(nodes, at, -1)
			branch, ok := impl.ReadTree(canon)
			if !ok {
				continue
			}
			there, ok := impl.Grafted(letterTree(t, `<o ns:p="z" ns:q="u" ns:r="z"><p:b/>x</o>`), 0, branch)
			if ok {
				moved++
				wantCanon(t, there, 3, -1, canon)
			}
		}
	}
	if moved < 500 {
		t.Errorf("only %d were put elsewhere", moved)
	}
}

// Promise 21 for chapter 11.
func TestCanonAnswersAreNewMemoryAndArgumentsStay(t *testing.T) {
	trees := append(memoryTrees(), letterTree(t, hiding), []impl.Node{element(-1, "p:u", "x", "u", "ns", "u", "ns:p", "u")}, []impl.Node{element(-1, "a", "ns", "A")})
	for seed := range 20 {
		trees = append(trees, meaningTree(seed))
	}
	told := 0
	other := layTree(letterTree(t, hiding))
	for _, given := range trees {
		tree := layTree(given)
		nodes := tree.nodes
		answers := []string{impl.CanonAll(nodes), impl.CanonAll(nodes)}
		impl.SameCanon(nodes, other.nodes)
		impl.SameCanon(other.nodes, nodes)
		impl.SameCanon(nodes, nodes)
		for at := range int64(len(nodes)) {
			for _, but := range []int64{-1, 1, at, int64(len(nodes))} {
				answers = append(answers, impl.Canon(nodes, at, but))
			}
		}
		texts := tokenTexts(nodeTokens(nodes))
		for i, canon := range answers {
			if canon != "" {
				told++
			}
			if slices.ContainsFunc(append(texts, answers[:i]...), func(s string) bool { return sharesMemory(canon, s) }) {
				t.Errorf("Canon %q lies in an argument, or in another answer", canon)
			}
		}
		tree.stays(t)
		other.stays(t)
	}
	if told < 500 {
		t.Errorf("only %d were told", told)
	}
}

// Promise 21 for chapter 11: an answer to whatever is given, empty where something is not as told, and the same one each time.
func TestCanonFunctionsAnswerEverywhere(t *testing.T) {
	for seed := range 10000 {
		next := dice(seed)
		nodes := anyNodes(next)
		checkCanon(t, nodes)
		far := farNumber(next)
		wantCanon(t, nodes, far, -1, "")
		wantCanon(t, nodes, 0, far, "")
	}
	for seed := range 300 {
		nodes := namedTree(seed)
		wantSameCanon(t, nodes, nodes, expectedNamesOk(nodes))
		for at := range int64(len(nodes)) {
			wantCanon(t, nodes, at, -1, expectedCanon(nodes, at, -1))
		}
	}
}
