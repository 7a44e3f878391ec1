package tests

import (
	"math"
	"regexp"
	"slices"
	"strings"
	"testing"

	"loop.example/g00379/impl"
)

var wholeMeaning = regexp.MustCompile(`\A[a-z0-9/.]{0,20}\z`)

// expectedDeclared tells the prefix that an Attr declares, and whether it is a declaration.
func expectedDeclared(a impl.Attr) (string, bool) {
	if a.Name == "ns" {
		return "", true
	}
	return strings.CutPrefix(a.Name, "ns:")
}

func expectedDeclarations(n impl.Node) bool {
	for _, a := range n.Attrs {
		prefix, is := expectedDeclared(a)
		if is && (!wholeMeaning.MatchString(a.Value) || prefix != "" && a.Value == "") {
			return false
		}
	}
	return true
}

// expectedMeaning goes from Parent to Parent of what is a tree.
func expectedMeaning(t []impl.Node, at int64, prefix string) (string, bool) {
	if at < 0 || at >= int64(len(t)) || t[at].Name == "" {
		return "", false
	}
	var found []string
	for ; at >= 0; at = t[at].Parent {
		if !expectedDeclarations(t[at]) {
			return "", false
		}
		for _, a := range t[at].Attrs {
			if of, is := expectedDeclared(a); is && of == prefix {
				found = append(found, a.Value)
			}
		}
	}
	if len(found) == 0 {
		return "", prefix == ""
	}
	return found[0], true
}

func expectedParts(name string) (string, string) {
	if prefix, local, ok := strings.Cut(name, ":"); ok {
		return prefix, local
	}
	return "", name
}

func expectedKnown(t []impl.Node, at int64, local, meaning string) bool {
	if at < 0 || at >= int64(len(t)) {
		return false
	}
	prefix, own := expectedParts(t[at].Name)
	got, ok := expectedMeaning(t, at, prefix)
	return ok && own == local && got == meaning
}

// expectedAlike asks about two Attrs, neither a declaration.
func expectedAlike(t []impl.Node, at int64, a, b impl.Attr) bool {
	prefixA, localA := expectedParts(a.Name)
	prefixB, localB := expectedParts(b.Name)
	if prefixA == "" || prefixB == "" || localA != localB {
		return false
	}
	meaningA, _ := expectedMeaning(t, at, prefixA)
	meaningB, _ := expectedMeaning(t, at, prefixB)
	return meaningA == meaningB
}

func expectedElementNames(t []impl.Node, at int64) bool {
	prefix, _ := expectedParts(t[at].Name)
	if _, ok := expectedMeaning(t, at, prefix); !ok || prefix == "ns" || !expectedDeclarations(t[at]) {
		return false
	}
	others := slices.DeleteFunc(slices.Clone(t[at].Attrs), func(a impl.Attr) bool {
		_, is := expectedDeclared(a)
		return is
	})
	for i, a := range others {
		prefix, _ := expectedParts(a.Name)
		if _, ok := expectedMeaning(t, at, prefix); prefix != "" && !ok {
			return false
		}
		for _, b := range others[:i] {
			if expectedAlike(t, at, a, b) {
				return false
			}
		}
	}
	return true
}

func expectedNamesOk(t []impl.Node) bool {
	if !expectedTreeOk(t) {
		return false
	}
	for at, n := range t {
		if n.Name != "" && !expectedElementNames(t, int64(at)) {
			return false
		}
	}
	return true
}

func wantMeaning(t *testing.T, nodes []impl.Node, at int64, prefix, want string, ok bool) {
	t.Helper()
	if got, is := impl.Meaning(nodes, at, prefix); got != want || is != ok {
		t.Errorf("Meaning(%+v, %d, %q) = %q, %v, not %q, %v", nodes, at, prefix, got, is, want, ok)
	}
}

func wantKnown(t *testing.T, nodes []impl.Node, at int64, local, meaning string, want bool) {
	t.Helper()
	if got := impl.Known(nodes, at, local, meaning); got != want {
		t.Errorf("Known(%+v, %d, %q, %q) = %v", nodes, at, local, meaning, got)
	}
}

func wantNamesOk(t *testing.T, nodes []impl.Node, want bool) {
	t.Helper()
	if got := expectedNamesOk(nodes); got != want {
		t.Errorf("of %+v the oracle says %v", nodes, got)
	}
	if got := impl.NamesOk(nodes); got != want {
		t.Errorf("NamesOk(%+v) = %v", nodes, got)
	}
}

// wantNoMeaning asks where there is no such element, or no tree.
func wantNoMeaning(t *testing.T, nodes []impl.Node, at int64) {
	t.Helper()
	for _, word := range []string{"", "a", "p", "u", "ns"} {
		wantMeaning(t, nodes, at, word, "", false)
		for _, meaning := range []string{"", "u", "d"} {
			wantKnown(t, nodes, at, word, meaning, false)
		}
	}
}

// namePrefixes are those that the Nodes name anywhere, and some that none does.
func namePrefixes(nodes []impl.Node) []string {
	list := []string{"", "ns", "nobody", "p:q", "1"}
	for _, n := range nodes {
		prefix, local := expectedParts(n.Name)
		list = append(list, prefix, local)
		for _, a := range n.Attrs {
			prefix, local := expectedParts(a.Name)
			list = append(list, prefix, local)
		}
	}
	slices.Sort(list)
	return slices.Compact(list)
}

// checkNames asks all that can be asked of Nodes, whatever they are.
func checkNames(t *testing.T, nodes []impl.Node) {
	t.Helper()
	// It is asked of thousands: one that fails tells enough.
	if t.Failed() {
		t.FailNow()
	}
	wantNamesOk(t, nodes, expectedNamesOk(nodes))
	prefixes, isTree := namePrefixes(nodes), expectedTreeOk(nodes)
	for at := int64(-2); at <= int64(len(nodes))+1; at++ {
		if !isTree {
			wantNoMeaning(t, nodes, at)
			continue
		}
		for _, prefix := range prefixes {
			want, ok := expectedMeaning(nodes, at, prefix)
			wantMeaning(t, nodes, at, prefix, want, ok)
			wantKnown(t, nodes, at, prefix, want, expectedKnown(nodes, at, prefix, want))
		}
		if at < 0 || at >= int64(len(nodes)) {
			continue
		}
		_, local := expectedParts(nodes[at].Name)
		for _, meaning := range []string{"", "u", "v", "w", "d", strings.Repeat("z", 20)} {
			wantKnown(t, nodes, at, local, meaning, expectedKnown(nodes, at, local, meaning))
		}
	}
}

func letterTree(t *testing.T, letter string) []impl.Node {
	t.Helper()
	nodes, ok := impl.ReadTree(letter)
	if !ok {
		t.Fatalf("%q is no tree", letter)
	}
	return nodes
}

// hiding has declarations in the first Node, hidden ones, one that leaves the meaning of no prefix, and a text.
const hiding = `<a ns="d" ns:p="u"><b ns:p="w" ns:q="v"><p:c/></b>x<p:d ns=""><e><p:f ns="g" ns:p="h"/></e></p:d></a>`

// Promise 9, by hand.
func TestMeaningOfTheNearestOneAround(t *testing.T) {
	nodes := letterTree(t, hiding)
	for at, want := range []struct {
		none, p, q string
		isQ        bool
	}{
		{"d", "u", "", false}, {"d", "w", "v", true}, {"d", "w", "v", true}, {}, {"", "u", "", false}, {"", "u", "", false}, {"g", "h", "", false},
	} {
		if at == 3 {
			wantNoMeaning(t, nodes, 3)
			continue
		}
		wantMeaning(t, nodes, int64(at), "", want.none, true)
		wantMeaning(t, nodes, int64(at), "p", want.p, true)
		wantMeaning(t, nodes, int64(at), "q", want.q, want.isQ)
		for _, prefix := range []string{"ns", "P", "pp", "a", "d", "u", "nobody"} {
			wantMeaning(t, nodes, int64(at), prefix, "", false)
		}
	}
	checkNames(t, nodes)
	wantNamesOk(t, nodes, true)
}

func TestMeaningOfWhatIsNotAround(t *testing.T) {
	for _, c := range []struct {
		letter string
		at     int64
	}{
		{`<a><b ns="u" ns:p="u"/></a>`, 0},
		{`<a><b><c ns="u" ns:p="u"/></b></a>`, 0}, {`<a><b><c ns="u" ns:p="u"/></b></a>`, 1},
		{`<a><b ns="u" ns:p="u"/><c/></a>`, 2}, {`<a><b/><c ns="u" ns:p="u"/></a>`, 1},
		{`<a><b ns="u" ns:p="u"><c/></b>x<d/></a>`, 4}, {`<a><b><c/></b><d ns="u" ns:p="u"/></a>`, 2},
		{`<a><b><c ns="u" ns:p="u"/><d/></b></a>`, 3}, {`<a><b><c ns="u" ns:p="u"/></b><d/></a>`, 3},
		{`<a/>`, 0}, {`<a><b/></a>`, 1},
	} {
		nodes := letterTree(t, c.letter)
		_, local := expectedParts(nodes[c.at].Name)
		wantMeaning(t, nodes, c.at, "", "", true)
		wantMeaning(t, nodes, c.at, "p", "", false)
		wantKnown(t, nodes, c.at, local, "", true)
		wantKnown(t, nodes, c.at, local, "u", false)
		checkNames(t, nodes)
		nodes[c.at].Name = "p:" + local
		wantKnown(t, nodes, c.at, local, "", false)
		wantKnown(t, nodes, c.at, local, "u", false)
		wantNamesOk(t, nodes, false)
		checkNames(t, nodes)
	}
}

// The tree is as deep as one may be: what the first declares is heard by the last, till one between says another thing.
func TestMeaningThroughAllDepths(t *testing.T) {
	for outer := range 9 {
		for inner := outer; inner < 9; inner++ {
			nodes := chain(9)
			nodes[outer].Attrs = attrs("ns", "d", "ns:p", "u")
			if inner > outer {
				nodes[inner].Attrs = attrs("x", "ns:p", "ns:p", "w", "ns", "")
			}
			for at := range int64(9) {
				switch {
				case at < int64(outer):
					wantMeaning(t, nodes, at, "", "", true)
					wantMeaning(t, nodes, at, "p", "", false)
				case at < int64(inner) || inner == outer:
					wantMeaning(t, nodes, at, "", "d", true)
					wantMeaning(t, nodes, at, "p", "u", true)
				default:
					wantMeaning(t, nodes, at, "", "", true)
					wantMeaning(t, nodes, at, "p", "w", true)
				}
			}
			checkNames(t, nodes)
			wantNamesOk(t, nodes, true)
		}
	}
	checkNames(t, chain(10))
	wantNamesOk(t, chain(10), false)
}

func TestMeaningInTheLastOfMostNodes(t *testing.T) {
	for count := 49; count <= 51; count++ {
		nodes := []impl.Node{element(-1, "a", "ns:p", "u")}
		for len(nodes) < count-1 {
			nodes = append(nodes, element(0, "b", "ns:p", "w", "ns:q", "w", "ns", "w"))
		}
		last := int64(len(nodes))
		nodes = append(nodes, element(0, "p:c", "ns:r", "v"))
		if count > 50 {
			wantNoMeaning(t, nodes, 0)
			wantNoMeaning(t, nodes, last)
			wantNamesOk(t, nodes, false)
			continue
		}
		wantMeaning(t, nodes, last, "p", "u", true)
		wantMeaning(t, nodes, last, "r", "v", true)
		wantMeaning(t, nodes, last, "q", "", false)
		wantMeaning(t, nodes, last, "", "", true)
		wantKnown(t, nodes, last, "c", "u", true)
		wantNoMeaning(t, nodes, last+1)
		wantNamesOk(t, nodes, true)
		nodes[last].Attrs = attrs("q:x", "1")
		wantNamesOk(t, nodes, false)
	}
}

func TestKnown(t *testing.T) {
	nodes := letterTree(t, hiding)
	own := [][2]string{{"a", "d"}, {"b", "d"}, {"c", "w"}, {"none", "none"}, {"d", "u"}, {"e", ""}, {"f", "h"}}
	for at := range nodes {
		for _, local := range []string{"a", "b", "c", "d", "e", "f", "", "p", "p:c", "C", "none", "x", "ns"} {
			for _, meaning := range []string{"d", "w", "u", "", "h", "g", "v", "D", "none", "ns", " "} {
				wantKnown(t, nodes, int64(at), local, meaning, at != 3 && own[at] == [2]string{local, meaning})
			}
		}
	}
	// A prefix that none declares has no Meaning, not an empty one.
	wantKnown(t, letterTree(t, `<p:a/>`), 0, "a", "", false)
	wantKnown(t, letterTree(t, `<p:a ns="u"/>`), 0, "a", "u", false)
	wantKnown(t, letterTree(t, `<a ns:p="u"/>`), 0, "a", "u", false)
	wantKnown(t, letterTree(t, `<a ns:a="u"/>`), 0, "a", "u", false)
	wantKnown(t, letterTree(t, `<a/>`), 0, "a", "", true)
	wantKnown(t, letterTree(t, `<ns/>`), 0, "ns", "", true)
	wantKnown(t, letterTree(t, `<ns ns="u"/>`), 0, "ns", "u", true)
	wantKnown(t, letterTree(t, `<p:p ns:p="u" ns="w"/>`), 0, "p", "u", true)
	wantKnown(t, letterTree(t, `<abcdefghij:KLMNOPQRST ns:abcdefghij="u"/>`), 0, "KLMNOPQRST", "u", true)
	// Known asks about the element's own Name alone.
	for _, letter := range []string{`<a q:x="1"/>`, `<a><q:b/></a>`, `<a ns:p="u" ns:q="u" p:x="1" q:x="2"/>`, `<a><b ns="A"/></a>`} {
		wantKnown(t, letterTree(t, letter), 0, "a", "", true)
		wantNamesOk(t, letterTree(t, letter), false)
	}
}

func TestNamesOkOfRightTrees(t *testing.T) {
	for _, letter := range []string{
		`<a/>`, `<a>x</a>`, `<a x="1"/>`, `<ns/>`, `<a ns=""/>`, `<a ns="u"/>`, `<a ns:p="u"/>`, `<a ns:p="u" ns="u" ns:q="u"/>`,
		`<p:a ns:p="u"/>`, `<a ns:p="u" p:x="1"/>`, `<a p:x="1" ns:p="u"/>`, `<a ns:p="u"><p:b p:x=""/></a>`, `<a ns:p="u"><b>x<p:c/></b></a>`,
		`<a x="A B" NS="A B" Ns="&quot;"/>`, `<NS:a ns:NS="u" NS:x="A"/>`, `<ns ns="u"/>`, `<a nsx="A" sn="B"/>`, `<nsx:a ns:nsx="u" nsx:y="A"/>`,
		`<a ns:p="u" x="1" p:x="2"/>`, `<a ns="u" ns:p="u" p:x="1" x="2"/>`, `<a ns:p="u" p:x="1" p:y="1"/>`,
		`<a ns:p="u" ns:q="v" p:x="1" q:x="1"/>`, `<a ns:p="u" ns:q="u" p:x="1" q:y="1"/>`, `<a ns:p="u" ns:q="u" p:x="1" q:X="1"/>`,
		`<a ns:p="u"><b ns:q="v" p:x="1" q:x="2"/></a>`, `<a ns:p="u"><b ns:p="v" ns:q="u" p:x="1" q:x="2"/></a>`, `<a ns:p="u" ns:q="v"><b p:x="1" q:x="2"/></a>`,
		`<a ns:p="u" ns:q="u"><p:b/><q:b/></a>`, `<a ns:p="u" ns:q="u"><b p:x="1"/><b q:x="1"/></a>`, `<p:a ns:p="u" p:a="1" a="2"/>`,
		`<a ns:p="u"><b p:x="1"><c p:x="1"/></b></a>`, `<a ns:p="./09az"><p:b/></a>`,
		`<a ns:ns="u"/>`, `<a ns:p="u" p:ns="A B"/>`, `<p:ns ns:p="u"/>`, `<a ns="u" ns:p="u" p:ns="1"/>`,
		`<a ns:x="u" ns:p="u" p:x="1"/>`, `<a ns:x="u" x="1"/>`, `<a ns:ns="u" ns:p="u" p:ns="1"/>`, `<a ns:ns="u" ns:p="u" ns:x="v" p:x="1"/>`,
	} {
		nodes := letterTree(t, letter)
		wantNamesOk(t, nodes, true)
		checkNames(t, nodes)
		for _, n := range nodes {
			slices.Reverse(n.Attrs)
			wantNamesOk(t, nodes, true)
		}
	}
}

// wronglyNamed are letters of trees that are not NamesOk.
func wronglyNamed() []string {
	return []string{
		// A declaration that is not right, wherever it stands.
		`<a ns="U"/>`, `<a ns=" "/>`, `<a ns:p=""/>`, `<a ns:p="U"/>`, `<a ns:p="u-v"/>`, `<a ns:ns=""/>`, `<a ns:ns="U"/>`, `<a ns:p="u" ns:q=""/>`, `<a ns="" ns:p=""/>`,
		`<a><b/><c ns="u v"/></a>`, `<a><b ns:p=""/><c/></a>`, `<a><b><c ns="A"/></b></a>`, `<a ns:p=""><b ns:p="u"/></a>`, `<a ns:p="u"><b ns:p=""/></a>`,
		// A prefix of an element that none around declares.
		`<p:a/>`, `<p:a ns="u"/>`, `<p:a ns:q="u"/>`, `<P:a ns:p="u"/>`, `<a><p:b/></a>`, `<a ns="u"><p:b/></a>`, `<a>x<b><p:c/></b></a>`, `<p:a ns:a="u"/>`,
		`<p:a><b ns:p="u"/></p:a>`, `<a><b ns:p="u"/><p:c/></a>`, `<a><p:b/><c ns:p="u"/></a>`, `<a><b><c ns:p="u"/></b><p:d/></a>`,
		// A prefix of an Attr that none around declares.
		`<a p:x="1"/>`, `<a ns="u" p:x="1"/>`, `<a ns:q="u" p:x="1"/>`, `<a ns:P="u" p:x="1"/>`, `<a><b ns:p="u"/><c p:x="1"/></a>`, `<a p:x="1"><b ns:p="u"/></a>`, `<a p:ns="u"/>`, `<a p:p="u"/>`, `<a p:x="1" q:x="2"/>`, `<NS:a NS:x="u"/>`, `<a NS:x="u"/>`, `<a nS:x="u"/>`,
		// The prefix ns.
		`<ns:a/>`, `<ns:ns/>`, `<ns:a ns="u"/>`, `<ns:a ns:ns="u"/>`, `<ns:ns ns:ns="u"/>`, `<a ns:ns="u"><ns:b/></a>`, `<a ns:ns="u"><b/>x<b><ns:c x="1"/></b></a>`,
		// Two Attrs of one local and one Meaning.
		`<a ns:p="u" ns:q="u" p:x="1" q:x="2"/>`, `<a ns:p="u" ns:q="u" p:x="1" q:x="1"/>`, `<a p:x="1" ns:p="u" y="3" ns:q="u" q:x="2"/>`,
		`<a ns:p="u"><b ns:q="u" p:x="1" q:x="2"/></a>`, `<a ns:p="u"><b ns:q="u" q:x="1" p:x="2"/></a>`, `<a ns:p="u" ns:q="u"><b p:x="1" q:x="2"/></a>`, `<a ns:p="u" ns:q="u"><b/>x<c><d p:x="1" y="2" q:x="3"/></c></a>`,
		`<a ns:p="u" ns:q="v"><b ns:q="u" p:x="1" q:x="2"/></a>`, `<a ns:p="u"><b ns:q="u"><c p:x="1" q:x="2"/></b></a>`, `<a ns:p="u" ns:q="u" p:ns="1" q:ns="2"/>`,
		`<a ns:p="u" ns:q="v" ns:r="u" p:x="1" q:x="2" r:x="3"/>`, `<a ns:p="u" ns:q="v" ns:r="v" p:x="1" q:x="2" r:x="3"/>`,
	}
}

func TestNamesOkOfWrongTrees(t *testing.T) {
	for _, letter := range wronglyNamed() {
		nodes := letterTree(t, letter)
		wantNamesOk(t, nodes, false)
		checkNames(t, nodes)
		for _, n := range nodes {
			slices.Reverse(n.Attrs)
			wantNamesOk(t, nodes, false)
		}
	}
}

// wantDeclared holds that a declaration of this Value is right, or is not, of a prefix or of none, in the element and in one around.
func wantDeclared(t *testing.T, name, value string, right bool) {
	t.Helper()
	prefix, _ := expectedDeclared(impl.Attr{Name: name})
	nodes := []impl.Node{element(-1, "a", name, value), element(0, "b"), element(1, "c", "x", value)}
	want := ""
	if right {
		want = value
	}
	for at := range int64(3) {
		wantMeaning(t, nodes, at, prefix, want, right)
		wantMeaning(t, nodes, at, "other", "", false)
		if prefix != "" {
			wantMeaning(t, nodes, at, "", "", right)
		}
	}
	wantKnown(t, nodes, 1, "b", want, right && (prefix == "" || value == ""))
	wantNamesOk(t, nodes, right)
	nodes[1].Name = "p:b"
	wantKnown(t, nodes, 1, "b", want, right && prefix == "p")
	wantNamesOk(t, nodes, right && prefix == "p")
}

func TestMeaningsOfEachLength(t *testing.T) {
	for length := range 61 {
		for _, sign := range []string{"a", "z", "0", "9", "/", "."} {
			value := strings.Repeat(sign, length)
			wantDeclared(t, "ns", value, length <= 20)
			wantDeclared(t, "ns:p", value, length >= 1 && length <= 20)
			wantDeclared(t, "ns:ns", value, length >= 1 && length <= 20)
		}
	}
	wantDeclared(t, "ns", "abcxyz/0189.//...aaz", true)
	wantDeclared(t, "ns:p", "abcxyz/0189.//...aaz", true)
	wantDeclared(t, "ns", "abcxyz/0189.//...aazz", false)
	wantDeclared(t, "ns:p", "abcxyz/0189.//...aazz", false)
}

// Of the bytes that are not plain there is no tree; of the others the words of the chapter tell.
func TestMeaningsOfEachSign(t *testing.T) {
	right := 0
	for b := range 256 {
		ok := strings.Contains("abcdefghijklmnopqrstuvwxyz0123456789/.", oneByte(b))
		if ok {
			right++
		}
		for _, value := range []string{oneByte(b), "a" + oneByte(b), oneByte(b) + "a", "aaaaaaaaaa" + oneByte(b) + "aaaaaaaaa", strings.Repeat(oneByte(b), 20)} {
			if plainByte(b) {
				wantDeclared(t, "ns", value, ok)
				wantDeclared(t, "ns:p", value, ok)
			} else {
				nodes := []impl.Node{element(-1, "a", "ns:p", value)}
				wantNoMeaning(t, nodes, 0)
				wantNamesOk(t, nodes, false)
			}
		}
	}
	for _, besides := range []string{"`", "{", "-", ":", "@", "A", "Z", "[", ",", "_", " ", "\n"} {
		wantDeclared(t, "ns", "u"+besides, false)
		wantDeclared(t, "ns:p", "u"+besides, false)
	}
	if right != 38 {
		t.Errorf("%d signs", right)
	}
}

func TestMeaningOfThePrefixNs(t *testing.T) {
	nodes := letterTree(t, `<a ns="d" ns:p="u"><ns:b ns:ns="w"><ns/></ns:b></a>`)
	wantMeaning(t, nodes, 0, "ns", "", false)
	wantMeaning(t, nodes, 1, "ns", "w", true)
	wantMeaning(t, nodes, 2, "ns", "w", true)
	wantMeaning(t, nodes, 2, "", "d", true)
	wantKnown(t, nodes, 1, "b", "w", true)
	wantKnown(t, nodes, 2, "ns", "d", true)
	wantNamesOk(t, nodes, false)
	nodes[1].Name = "b"
	wantNamesOk(t, nodes, true)
	checkNames(t, nodes)
	// A local that is ns makes no declaration.
	other := letterTree(t, `<a ns:p="u" p:ns="A B"/>`)
	wantMeaning(t, other, 0, "", "", true)
	wantMeaning(t, other, 0, "p", "u", true)
	wantMeaning(t, other, 0, "ns", "", false)
	wantNamesOk(t, other, true)
}

// Each Node of a tree declares wrongly in turn: just what it is around of hears nothing any more, and no tree of such a Node is NamesOk.
func TestMeaningWhereADeclarationIsNotRight(t *testing.T) {
	for _, wrong := range [][]impl.Attr{attrs("ns", "A"), attrs("ns:q", ""), attrs("ns:q", "a-b"), attrs("ns:ns", strings.Repeat("a", 21)), attrs("ns", "", "ns:r", "u v")} {
		for broken, n := range middleTree() {
			if n.Name == "" {
				continue
			}
			nodes := middleTree()
			nodes[0].Attrs = attrs("ns:p", "u")
			nodes[3].Attrs = append(nodes[3].Attrs, attrs("ns:p", "w")...)
			nodes[broken].Attrs = append(nodes[broken].Attrs, wrong...)
			wantNamesOk(t, nodes, false)
			checkNames(t, nodes)
			for at, n := range nodes {
				inside := at >= broken && int64(at) < int64(broken)+expectedSize(nodes, int64(broken))
				if inside || n.Name == "" {
					wantNoMeaning(t, nodes, int64(at))
					wantKnown(t, nodes, int64(at), n.Name, "", false)
				} else if meaning, ok := impl.Meaning(nodes, int64(at), "p"); !ok || meaning == "" {
					t.Errorf("Meaning(%+v, %d) = %q, %v", nodes, at, meaning, ok)
				}
			}
		}
	}
}

func TestMeaningOfWrongPrefixes(t *testing.T) {
	nodes := letterTree(t, `<a ns="d" ns:p="u" ns:abcdefghij="w" p="v" x:y="z"><b/></a>`)
	for at := range int64(2) {
		wantMeaning(t, nodes, at, "abcdefghij", "w", true)
		for _, prefix := range []string{
			":", "p:", ":p", "p:p", "ns:p", "ns:", ":ns", "ns", "x", "x:y", "y", "abcdefghi", "abcdefghijk", "abcdefghij:a", "ABCDEFGHIJ", "P", " p", "p ", "p\n", " ", "1", ".", "-", "\x00", "p\x00", "\xff", "\u00e9", "a", "u", "ns=", "<", "&", "\"",
			strings.Repeat("p", 11), strings.Repeat("p", 1<<20), strings.Repeat("ns:", 5000),
		} {
			wantMeaning(t, nodes, at, prefix, "", false)
			wantKnown(t, nodes, at, prefix, "d", prefix == "a" && at == 0)
			wantKnown(t, nodes, at, "b", prefix, false)
		}
		for b := range 256 {
			wantMeaning(t, nodes, at, oneByte(b), map[bool]string{true: "u"}[b == 'p'], b == 'p')
			wantMeaning(t, nodes, at, "p"+oneByte(b), "", false)
		}
	}
}

func TestNamesWhereThereIsNoElement(t *testing.T) {
	nodes := letterTree(t, hiding)
	for _, at := range append(farNumbers(), -1, -2, -7, 7, 8, 49, 50, 51, 256, 1<<32+4, math.MinInt64+4, 3) {
		wantNoMeaning(t, nodes, at)
		wantNoMeaning(t, nil, at)
		wantNoMeaning(t, []impl.Node{}, at)
		wantNoMeaning(t, []impl.Node{{}}, at)
		wantNoMeaning(t, []impl.Node{textNode(-1, "x")}, at)
	}
	texts := letterTree(t, `<a ns:p="u">x<b/>y</a>`)
	wantNoMeaning(t, texts, 1)
	wantNoMeaning(t, texts, 3)
	wantKnown(t, texts, 3, "y", "", false)
	wantMeaning(t, texts, 2, "p", "u", true)
}

func TestNamesOfNoTree(t *testing.T) {
	for _, nodes := range [][]impl.Node{
		nil, {}, {{}}, {textNode(-1, "x")}, {element(0, "a")}, {element(-2, "a", "ns", "u")}, {element(-1, "a", "ns", "u"), element(-1, "b")}, {element(-1, "a", "ns", "u"), element(1, "b")}, {element(-1, "a"), element(2, "b", "ns", "u"), element(1, "c")},
		{element(-1, "a", "ns", "u", "ns", "u")}, {element(-1, "a", "ns:p", "u", "ns:p", "w")}, {element(-1, "a", "ns:p:q", "u")}, {element(-1, "a", "ns:", "u")}, {element(-1, "a", "ns:1", "u")}, {element(-1, "a", "ns:abcdefghijk", "u")}, {element(-1, "p:q:a", "ns:p", "u")}, {element(-1, "1", "ns", "u")},
		{element(-1, "a", "ns", "\xff")}, {element(-1, "a", "ns", strings.Repeat("u", 61))}, {element(-1, "a", "x", "\t")}, {{Parent: -1, Name: "a", Text: "x"}}, {element(-1, "a"), {Parent: 0}}, {element(-1, "a"), textNode(0, "x"), textNode(0, "y")}, {element(-1, "a"), textNode(0, "x"), element(1, "b")},
		{element(-1, "a", "ns:p", "u", "ns:q", "u", "ns:r", "u", "ns:s", "u", "ns:t", "u", "ns:v", "u", "ns:w", "u")}, {{Parent: -1, Attrs: attrs("ns", "u"), Text: "x"}},
		chain(10), make([]impl.Node, 51), slices.Repeat([]impl.Node{element(-1, "a")}, 1<<16), slices.Repeat([]impl.Node{element(0, "a")}, 1000), {element(math.MaxInt64, "a")}, {element(math.MinInt64, "a")}, {element(-1, "a"), element(math.MaxInt64, "b")},
	} {
		wantNamesOk(t, nodes, false)
		for _, at := range []int64{-1, 0, 1, 2, 9, math.MaxInt64, math.MinInt64} {
			wantNoMeaning(t, nodes, at)
		}
	}
	// One Node that is not right takes the answers from all others.
	for at := range middleTree() {
		nodes := middleTree()
		nodes[0].Attrs = attrs("ns:p", "u")
		nodes[at].Attrs = append(nodes[at].Attrs, attrs("1", "1")...)
		wantNamesOk(t, nodes, false)
		for other := range nodes {
			wantNoMeaning(t, nodes, int64(other))
		}
	}
}

// eachChain goes through all chains of at most three elements with these names and lists of Attrs.
func eachChain(t *testing.T, names []string, kinds [][]impl.Attr, do func([]impl.Node)) {
	var of []impl.Node
	for _, list := range kinds {
		for _, name := range names {
			of = append(of, impl.Node{Name: name, Attrs: list})
		}
	}
	eachList(of, 3, func(list []impl.Node) {
		// There are thousands: one that fails tells enough.
		if t.Failed() {
			t.FailNow()
		}
		nodes := slices.Clone(list)
		for i := range nodes {
			nodes[i].Parent = int64(i) - 1
		}
		do(nodes)
	})
}

// Each chain of three elements whose Attrs are of a few: the answers are those of the words of the chapter.
func TestNamesOfShortChains(t *testing.T) {
	kinds := [][]impl.Attr{
		nil, attrs("ns", "u"), attrs("ns", ""), attrs("ns:p", "u"), attrs("ns:p", "v", "p:x", "1"), attrs("ns:q", "u", "ns", "v"), attrs("p:x", "1"), attrs("p:x", "1", "q:x", "1"), attrs("q:x", "1", "x", "1"), attrs("ns:p", ""), attrs("ns:ns", "u", "ns:q", "v"),
	}
	right, wrong := 0, 0
	eachChain(t, []string{"a", "p:a", "q:b", "ns:a"}, kinds, func(nodes []impl.Node) {
		want := expectedNamesOk(nodes)
		if want {
			right++
		} else {
			wrong++
		}
		if got := impl.NamesOk(nodes); got != want {
			t.Fatalf("NamesOk(%+v) = %v", nodes, got)
		}
		if len(nodes) == 0 {
			return
		}
		last := int64(len(nodes)) - 1
		for _, prefix := range []string{"", "p", "q", "ns"} {
			meaning, ok := expectedMeaning(nodes, last, prefix)
			wantMeaning(t, nodes, last, prefix, meaning, ok)
		}
		for _, meaning := range []string{"", "u", "v"} {
			wantKnown(t, nodes, last, "a", meaning, expectedKnown(nodes, last, "a", meaning))
		}
	})
	if right < 1000 || wrong < 10000 {
		t.Errorf("%d chains are NamesOk, %d are not", right, wrong)
	}
}

// namedTree is a strewn one whose Names and Attrs are of those that tell, most of them right.
func namedTree(seed int) []impl.Node {
	next := dice(seed + 77)
	names := []string{"a", "b", "a", "b", "p:a", "q:b"}
	pairs := [][2]string{{"ns", "u"}, {"ns", ""}, {"ns:p", "u"}, {"ns:p", "v"}, {"ns:p", "w"}, {"ns:q", "u"}, {"ns:q", "v"}, {"ns:r", strings.Repeat("z", 20)}, {"x", "A"}, {"p:x", "1"}, {"q:x", "1"}, {"p:y", "1"}, {"r:x", "1"}}
	if seed%4 == 0 {
		names = append(names, "ns:a", "r:c")
		pairs = append(pairs, [2]string{"ns:q", ""}, [2]string{"ns", "A"}, [2]string{"ns:ns", "u"}, [2]string{"p:ns", "1"})
	}
	nodes := strewnTree(seed)
	for i := range nodes {
		if nodes[i].Name == "" {
			continue
		}
		nodes[i].Name, nodes[i].Attrs = names[next(len(names))], nil
		for range next(4) {
			one := pairs[next(len(pairs))]
			if _, there := impl.ValueIn(nodes[i].Attrs, one[0]); !there {
				nodes[i].Attrs = append(nodes[i].Attrs, attrs(one[0], one[1])...)
			}
		}
	}
	if seed%3 > 0 {
		nodes[0].Attrs = attrs("ns:p", "u", "ns:q", "w", "ns:r", "t")
	}
	return nodes
}

// Promise 9.
func TestMeaningsAreThoseOfTheNearestOne(t *testing.T) {
	right, wrong, hidden := 0, 0, 0
	for seed := range 800 {
		nodes := namedTree(seed)
		checkNames(t, nodes)
		if impl.NamesOk(nodes) {
			right++
		} else {
			wrong++
		}
		for at, n := range nodes {
			own, ok := impl.ValueIn(n.Attrs, "ns:p")
			if n.Name == "" || !ok {
				continue
			}
			if got, is := impl.Meaning(nodes, int64(at), "p"); is && got != own {
				t.Fatalf("Meaning(%+v, %d) = %q", nodes, at, got)
			}
			if further, is := impl.Meaning(nodes, n.Parent, "p"); is && further != own {
				hidden++
			}
		}
	}
	if right < 50 || wrong < 300 || hidden < 300 {
		t.Errorf("%d trees are NamesOk, %d are not, %d declarations hide another", right, wrong, hidden)
	}
}

// Promise 9: an element that comes to declare a prefix changes what is heard in it, as far as no nearer one declares it, and nothing elsewhere.
func TestADeclarationIsHeardInItsElementAlone(t *testing.T) {
	heard, kept := 0, 0
	for seed := range 300 {
		nodes := namedTree(4*seed + 1)
		by := int64(dice(seed)(len(nodes)))
		if nodes[by].Name == "" || len(nodes[by].Attrs) == 6 {
			continue
		}
		if _, there := impl.ValueIn(nodes[by].Attrs, "ns:p"); there {
			continue
		}
		changed := slices.Clone(nodes)
		changed[by].Attrs = append(slices.Clip(changed[by].Attrs), attrs("ns:p", "new")...)
		for at := range int64(len(nodes)) {
			before, was := impl.Meaning(nodes, at, "p")
			after, is := impl.Meaning(changed, at, "p")
			if at == by && (after != "new" || !is) {
				t.Fatalf("Meaning(%+v, %d) = %q, %v", changed, at, after, is)
			}
			if at < by || at >= impl.EndOf(nodes, by) || after != "new" {
				kept++
				if before != after || was != is {
					t.Fatalf("Meaning(%+v, %d) was %q, %v, and is %q, %v", changed, at, before, was, after, is)
				}
				continue
			}
			heard++
		}
	}
	if heard < 200 || kept < 2000 {
		t.Errorf("%d heard it, %d did not", heard, kept)
	}
}

// Promise 21 for chapter 9.
func TestNameAnswersAreNewMemoryAndArgumentsStay(t *testing.T) {
	trees := append(memoryTrees(), letterTree(t, hiding), []impl.Node{element(-1, "p:u", "ns", "u", "ns:p", "u", "x", "u")}, []impl.Node{element(-1, "a", "ns", "A")})
	for seed := range 20 {
		trees = append(trees, namedTree(seed))
	}
	told := 0
	for _, given := range trees {
		tree := layTree(given)
		nodes := tree.nodes
		impl.NamesOk(nodes)
		for at := range int64(len(nodes)) {
			for _, word := range []string{"", "p", "q", "u", "nobody"} {
				prefix, buffer := laid(word)
				meaning, _ := impl.Meaning(nodes, at, prefix)
				again, _ := impl.Meaning(nodes, at, prefix)
				impl.Known(nodes, at, prefix, prefix)
				texts := append(tokenTexts(nodeTokens(nodes)), prefix, again)
				if slices.ContainsFunc(texts, func(s string) bool { return sharesMemory(meaning, s) }) {
					t.Errorf("Meaning %q lies in an argument", meaning)
				}
				if meaning != "" {
					told++
				}
				if string(buffer) != word+"spare room" {
					t.Errorf("the prefix %q became %q", word, buffer)
				}
			}
		}
		tree.stays(t)
	}
	if told < 100 {
		t.Errorf("only %d meanings were told", told)
	}
}

// anyNodes are a few, of whatever fields; most of them are no tree.
func anyNodes(next func(int) int) []impl.Node {
	parents := append(farNumbers(), -2, -1, -1, -1, 0, 0, 0, 1, 2, 3, 49, 50, 51)
	words := []string{"", "a", "p:a", "ns:a", "ns", "ns:p", "ns:ns", "1", "\xff", "p:q:r", ":"}
	values := []string{"", "", "u", "A", "\t", strings.Repeat("v", 21), strings.Repeat("v", 61)}
	var nodes []impl.Node
	for range next(6) {
		var list []impl.Attr
		for range next(3) {
			list = append(list, impl.Attr{Name: words[next(len(words))], Value: values[next(len(values))]})
		}
		nodes = append(nodes, impl.Node{Parent: parents[next(len(parents))], Name: words[next(len(words))], Attrs: list, Text: values[next(2)*next(len(values))]})
	}
	return nodes
}

func farNumber(next func(int) int) int64 { return farNumbers()[next(len(farNumbers()))] }

// Promise 21 for chapter 9: an answer to whatever is given, nothing where it is false, and the same one each time.
func TestNameFunctionsAnswerEverywhere(t *testing.T) {
	for seed := range 20000 {
		next := dice(seed)
		nodes := anyNodes(next)
		checkNames(t, nodes)
		wantNoMeaning(t, nodes, farNumber(next))
	}
	for b := range 256 {
		checkNames(t, []impl.Node{element(-1, oneByte(b)), element(0, "a"+oneByte(b)+"b", "ns:a", "u")})
		checkNames(t, []impl.Node{element(-1, "a", oneByte(b), "u", "ns"+oneByte(b), "A", "ns"+oneByte(b)+"p", "u"), element(0, "p:a")})
	}
}
