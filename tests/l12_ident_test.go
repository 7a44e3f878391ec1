package tests

import (
	"math"
	"regexp"
	"slices"
	"strings"
	"testing"

	"loop.example/g00379/impl"
)

var wholeId = regexp.MustCompile(`\A[a-z0-9]{1,12}\z`)

// expectedIds holds under each Value of an Attr Id who has it.
func expectedIds(t []impl.Node) map[string][]int64 {
	ids := map[string][]int64{}
	for at, n := range t {
		for _, a := range n.Attrs {
			if a.Name == "Id" {
				ids[a.Value] = append(ids[a.Value], int64(at))
			}
		}
	}
	return ids
}

func expectedIdsOk(t []impl.Node) bool {
	if !expectedTreeOk(t) {
		return false
	}
	for id, who := range expectedIds(t) {
		if !wholeId.MatchString(id) || len(who) > 1 {
			return false
		}
	}
	return true
}

// expectedAllKnown is told whether the tree is NamesOk: that is asked once, not for each word.
func expectedAllKnown(t []impl.Node, namesOk bool, local, meaning string) []int64 {
	var list []int64
	for at := range int64(len(t)) {
		if namesOk && expectedKnown(t, at, local, meaning) {
			list = append(list, at)
		}
	}
	return list
}

func wantIdsOk(t *testing.T, nodes []impl.Node, want bool) {
	t.Helper()
	if got := expectedIdsOk(nodes); got != want {
		t.Errorf("of %+v the oracle says %v", nodes, got)
	}
	if got := impl.IdsOk(nodes); got != want {
		t.Errorf("IdsOk(%+v) = %v", nodes, got)
	}
}

func wantFindId(t *testing.T, nodes []impl.Node, id string, want int64) {
	t.Helper()
	if got := impl.FindId(nodes, id); got != want {
		t.Errorf("FindId(%+v, %q) = %d, not %d", nodes, id, got, want)
	}
}

func wantIdOf(t *testing.T, nodes []impl.Node, at int64, want string) {
	t.Helper()
	if got := impl.IdOf(nodes, at); got != want {
		t.Errorf("IdOf(%+v, %d) = %q, not %q", nodes, at, got, want)
	}
}

func wantAllKnown(t *testing.T, nodes []impl.Node, local, meaning string, want ...int64) {
	t.Helper()
	if got := impl.AllKnown(nodes, local, meaning); !slices.Equal(got, want) {
		t.Errorf("AllKnown(%+v, %q, %q) = %v, not %v", nodes, local, meaning, got, want)
	}
}

// idWords are the texts that the Nodes have anywhere, and some that none has.
func idWords(nodes []impl.Node) []string {
	words := append(tokenTexts(nodeTokens(nodes)), "", "Id", "nobody", "x", "x1", " ", strings.Repeat("a", 12), strings.Repeat("a", 13))
	slices.Sort(words)
	return slices.Compact(words)
}

// wantIds holds of Nodes that are IdsOk whose Ids these are, one a Node (empty: none), that each is found by it, and that nothing else is found.
func wantIds(t *testing.T, nodes []impl.Node, ids ...string) {
	t.Helper()
	wantIdsOk(t, nodes, true)
	if len(ids) != len(nodes) {
		t.Fatalf("%d Ids of %+v", len(ids), nodes)
	}
	for at, id := range ids {
		wantIdOf(t, nodes, int64(at), id)
		if id != "" {
			wantFindId(t, nodes, id, int64(at))
		}
	}
	for _, word := range idWords(nodes) {
		if word == "" || !slices.Contains(ids, word) {
			wantFindId(t, nodes, word, -1)
		}
	}
	for _, far := range []int64{-1, -2, int64(len(nodes)), int64(len(nodes)) + 1} {
		wantIdOf(t, nodes, far, "")
	}
}

// wantNoIds holds of Nodes that are not IdsOk that nobody is found and nobody has an Id.
func wantNoIds(t *testing.T, nodes []impl.Node) {
	t.Helper()
	wantIdsOk(t, nodes, false)
	words := idWords(nodes[:min(len(nodes), 60)])
	for _, word := range words {
		wantFindId(t, nodes, word, -1)
	}
	for at := int64(-2); at < int64(min(len(nodes), 60))+2; at++ {
		wantIdOf(t, nodes, at, "")
	}
}

// checkIds asks all that can be asked of Nodes, whatever they are.
func checkIds(t *testing.T, nodes []impl.Node) {
	t.Helper()
	// It is asked of thousands: one that fails tells enough.
	if t.Failed() {
		t.FailNow()
	}
	if !expectedIdsOk(nodes) {
		wantNoIds(t, nodes)
		return
	}
	ids := map[int64]string{}
	for id, who := range expectedIds(nodes) {
		ids[who[0]] = id
	}
	wantIds(t, nodes, idsBut(len(nodes), ids)...)
}

// checkKnown asks for each local of the Nodes and each Value that may be a meaning.
func checkKnown(t *testing.T, nodes []impl.Node) {
	t.Helper()
	if t.Failed() {
		t.FailNow()
	}
	namesOk := expectedNamesOk(nodes)
	locals, meanings := []string{"", "ns", "nobody", "p:a", "A"}, []string{"", "u", "U", "nothing"}
	for _, n := range nodes {
		_, local := expectedParts(n.Name)
		locals = append(locals, local)
		for _, a := range n.Attrs {
			meanings = append(meanings, a.Value)
		}
	}
	slices.Sort(locals)
	slices.Sort(meanings)
	for _, local := range slices.Compact(locals) {
		for _, meaning := range slices.Compact(meanings) {
			wantAllKnown(t, nodes, local, meaning, expectedAllKnown(nodes, namesOk, local, meaning)...)
		}
	}
}

// Promise 12, by hand.
func TestWhoHasAnIdIsFoundByIt(t *testing.T) {
	for _, c := range []struct {
		letter string
		ids    []string
	}{
		{`<a/>`, []string{""}}, {`<a><b/>x</a>`, []string{"", "", ""}}, {`<a Id="x1"/>`, []string{"x1"}}, {`<a Id="0"/>`, []string{"0"}},
		// On the first, on one further in, on the last, on all.
		{`<a Id="x"><b/><c/></a>`, []string{"x", "", ""}}, {`<a><b Id="x"/><c/></a>`, []string{"", "x", ""}}, {`<a><b/><c Id="x"/></a>`, []string{"", "", "x"}}, {`<a><b><c Id="x"/></b><d/></a>`, []string{"", "", "x", ""}},
		{`<a Id="x"><b Id="y"/><c Id="z"/></a>`, []string{"x", "y", "z"}}, {`<a Id="3"><b Id="2"><c Id="1"/></b><d Id="0"/></a>`, []string{"3", "2", "1", "0"}}, {`<a Id="x1" ns="u"><b Id="x2"/><b/></a>`, []string{"x1", "x2", ""}},
		// Beside texts.
		{`<a Id="x">y</a>`, []string{"x", ""}}, {`<a>x<b Id="x"/>x</a>`, []string{"", "", "x", ""}}, {`<a>x<b Id="y">y</b>z<c Id="z"/></a>`, []string{"", "", "y", "", "", "z"}}, {`<a Id="x">Id<b>x</b></a>`, []string{"x", "", "", ""}},
		// Among other Attrs.
		{`<a Id="x" y="1" z="2"><b/></a>`, []string{"x", ""}}, {`<a y="1" Id="x" z="2"/>`, []string{"x"}}, {`<a y="1" z="2" Id="x"/>`, []string{"x"}}, {`<a y="x" Id="z" x="y"/>`, []string{"z"}}, {`<p:a ns:p="u" p:y="x" Id="y" ns="d"/>`, []string{"y"}},
		// An element may be named so.
		{`<Id/>`, []string{""}}, {`<Id Id="id"><id/></Id>`, []string{"id", ""}}, {`<Id>x</Id>`, []string{"", ""}},
	} {
		wantIds(t, letterTree(t, c.letter), c.ids...)
		checkIds(t, letterTree(t, c.letter))
	}
}

// elementsOf tells which Nodes may have an Id.
func elementsOf(nodes []impl.Node) []int64 {
	var list []int64
	for at, n := range nodes {
		if n.Name != "" {
			list = append(list, int64(at))
		}
	}
	return list
}

// withId has this Id at that element, behind so many of its other Attrs.
func withId(nodes []impl.Node, at int64, behind int, id string) []impl.Node {
	out := slices.Clone(nodes)
	out[at].Attrs = slices.Insert(slices.Clone(out[at].Attrs), behind, impl.Attr{Name: "Id", Value: id})
	return out
}

// idsBut is a list of no Ids, but of these.
func idsBut(size int, some map[int64]string) []string {
	ids := make([]string, size)
	for at, id := range some {
		ids[at] = id
	}
	return ids
}

func TestIdAtEachElementBehindEachAttr(t *testing.T) {
	for _, nodes := range [][]impl.Node{middleTree(), chain(9), chain(8, textNode(0, "x")), wide(50), wide(2)} {
		for _, at := range elementsOf(nodes) {
			full := slices.Clone(nodes)
			full[at].Attrs = attrs("a", "x9", "id", "y", "p:Id", "x9", "Idx", "", "ID", " ")
			for behind := range 6 {
				wantIds(t, withId(full, at, behind, "x9"), idsBut(len(nodes), map[int64]string{at: "x9"})...)
			}
			wantIds(t, withId(nodes, at, 0, "z"), idsBut(len(nodes), map[int64]string{at: "z"})...)
			wantIds(t, full, idsBut(len(nodes), nil)...)
		}
	}
}

// wantOneId holds that an Id is right, or is not, on the first element, on one further in, and on the last one; what is not right takes its Id from the one beside it too.
func wantOneId(t *testing.T, id string, right bool) {
	t.Helper()
	nodes := letterTree(t, `<a><b Id="beside">y<c x="1"/></b><d/></a>`)
	for _, at := range []int64{0, 3, 4} {
		one := withId(nodes, at, 0, id)
		if right {
			wantIds(t, one, idsBut(5, map[int64]string{1: "beside", at: id})...)
		} else {
			wantNoIds(t, one)
		}
	}
}

func TestIdsOfEachLength(t *testing.T) {
	for length := range 61 {
		for _, sign := range []string{"a", "z", "0", "9"} {
			wantOneId(t, strings.Repeat(sign, length), length >= 1 && length <= 12)
		}
	}
	wantOneId(t, "abcxyz012789", true)
	wantOneId(t, "abcxyz0127890", false)
	if impl.MaxId != 12 {
		t.Errorf("MaxId is %d", impl.MaxId)
	}
}

// Of the bytes that are not plain there is no tree; of the others the words of the chapter tell.
func TestIdsOfEachSign(t *testing.T) {
	right := 0
	for b := range 256 {
		ok := strings.Contains("abcdefghijklmnopqrstuvwxyz0123456789", oneByte(b))
		if ok {
			right++
		}
		for _, id := range []string{oneByte(b), "a" + oneByte(b), oneByte(b) + "a", "aaaaaa" + oneByte(b) + "aaaaa", strings.Repeat(oneByte(b), 12)} {
			wantOneId(t, id, ok)
		}
	}
	if right != 36 {
		t.Errorf("%d signs", right)
	}
	for _, besides := range []string{"`", "{", "/", ":", "A", "Z", "@", "[", ".", "-", "_", " ", "\n", "\"", "&", "<", "&lt;", "\u00e9"} {
		wantOneId(t, besides, false)
		wantOneId(t, "x"+besides, false)
		wantOneId(t, besides+"x", false)
	}
}

func TestIdsThatDifferInOneSign(t *testing.T) {
	for _, id := range []string{"a", "z", "x1", "0000", "aaaaaaaaaaaa", "abcdef012345"} {
		for at := range len(id) {
			for _, sign := range []string{"b", "y", "1", "9", ""} {
				other := id[:at] + sign + id[at+1:]
				if other == id || other == "" {
					continue
				}
				nodes := []impl.Node{element(-1, "a", "Id", id), element(0, "b", "Id", other)}
				wantIds(t, nodes, id, other)
				nodes[0].Attrs, nodes[1].Attrs = nodes[1].Attrs, nodes[0].Attrs
				wantIds(t, nodes, other, id)
				wantIds(t, nodes[:1], other)
				wantFindId(t, nodes[:1], id, -1)
			}
		}
	}
}

// Only an Attr whose Name is just Id has to do with Ids, whatever stands in another one.
func TestTheSameValueUnderAnotherName(t *testing.T) {
	for _, name := range []string{"id", "ID", "iD", "I", "d", "Ids", "Idd", "IdId", "dI", "p:Id", "ns:Id", "Id:Id", "Id:p", "Id:x", "q:id", "ns", "Ref", "Name"} {
		for _, value := range []string{"x1", "x2", "", "X", "x-1", strings.Repeat("a", 60)} {
			nodes := []impl.Node{element(-1, "a", name, value, "Id", "x1"), element(0, "b", name, value), element(0, "c", "Id", "x2", name, value), textNode(0, "x1")}
			wantIds(t, nodes, "x1", "", "x2", "")
			nodes[0].Attrs = attrs(name, value, "ns:p", "u", "ns:q", "v")
			wantIds(t, nodes, "", "", "x2", "")
		}
	}
	wantIds(t, letterTree(t, `<a ns:p="u" p:Id="x"><b Id="x"/><c id="x"/></a>`), "", "x", "")
	wantIds(t, letterTree(t, `<a ns:p="u" Id="x" p:Id="x" id="x" ID="x" ns:Id="x"/>`), "x")
	wantIds(t, letterTree(t, `<Id:Id ns:Id="x" Id="y"><Id/>Id</Id:Id>`), "y", "", "")
}

func TestTwoElementsWithOneId(t *testing.T) {
	for _, letter := range []string{
		`<a Id="x"><b Id="x"/></a>`, `<a><b Id="x"/><c Id="x"/></a>`, `<a><b Id="x"/><b Id="x"/></a>`, `<a><b Id="x"><c Id="x"/></b></a>`, `<a><b><c Id="x"/></b><d Id="x"/></a>`, `<a><b Id="x"/>y<c><d Id="x"/></c></a>`,
		`<a Id="x"><b Id="y"/><c Id="x"/></a>`, `<a Id="y"><b Id="x"/><c Id="x"/></a>`, `<a Id="x"><b Id="x"/><c Id="y"/></a>`, `<a Id="x"><b Id="x"/><c Id="x"/></a>`,
		`<p:a ns:p="u" Id="x"><q:a ns:q="w" y="1" Id="x"/></p:a>`,
	} {
		wantNoIds(t, letterTree(t, letter))
	}
	for _, nodes := range [][]impl.Node{middleTree(), chain(9), wide(50)} {
		list := elementsOf(nodes)
		for i, one := range list {
			for _, other := range list[:i] {
				both := withId(withId(nodes, one, 0, "x1"), other, len(nodes[other].Attrs), "x1")
				wantIdsOk(t, both, false)
				wantFindId(t, both, "x1", -1)
				wantIdOf(t, both, one, "")
				wantIdOf(t, both, other, "")
				apart := withId(withId(nodes, one, 0, "x1"), other, len(nodes[other].Attrs), "x2")
				wantIdsOk(t, apart, true)
				wantFindId(t, apart, "x1", one)
				wantFindId(t, apart, "x2", other)
				wantIdOf(t, apart, one, "x1")
				wantIdOf(t, apart, other, "x2")
			}
		}
	}
}

// idNumber is an Id of two signs, or of one.
func idNumber(n int) string {
	return strings.TrimPrefix("abcdefghij"[n/10:n/10+1]+"0123456789"[n%10:n%10+1], "a")
}

func TestIdsOfMostNodes(t *testing.T) {
	for count := 49; count <= 51; count++ {
		nodes, ids := wide(count), []string{}
		for at := range nodes {
			ids = append(ids, idNumber(at))
			nodes[at].Attrs = attrs("Id", ids[at])
		}
		if count > 50 {
			wantNoIds(t, nodes)
			continue
		}
		wantIds(t, nodes, ids...)
		nodes[count-1].Attrs = attrs("Id", ids[0])
		wantNoIds(t, nodes)
		nodes[count-1].Attrs = attrs("Id", "A")
		wantNoIds(t, nodes)
	}
}

func TestIdsOfNoTree(t *testing.T) {
	for _, nodes := range noTrees() {
		wantNoIds(t, nodes)
		for _, far := range farNumbers() {
			wantIdOf(t, nodes, far, "")
		}
		for _, local := range []string{"", "a", "b", "1"} {
			wantAllKnown(t, nodes, local, "")
		}
		withIds := slices.Clone(nodes)
		for at := range min(len(withIds), 60) {
			withIds[at].Attrs = append(slices.Clip(withIds[at].Attrs), attrs("Id", idNumber(at))...)
		}
		wantNoIds(t, withIds)
		wantAllKnown(t, withIds, "a", "")
	}
	// One Node has two Ids, like or unlike, or is a text that has one.
	for _, nodes := range [][]impl.Node{{element(-1, "a", "Id", "x", "Id", "y")}, {element(-1, "a", "Id", "x", "Id", "x")}, {element(-1, "a"), {Parent: 0, Attrs: attrs("Id", "x"), Text: "y"}}} {
		wantNoIds(t, nodes)
		wantAllKnown(t, nodes, "a", "")
	}
}

func TestIdOfWhereThereIsNoElement(t *testing.T) {
	nodes := letterTree(t, `<a Id="x0">y<b Id="x2"/>z</a>`)
	for _, at := range append(farNumbers(), -1, -2, -3, -4, 1, 3, 4, 5, 49, 50, 51, 256, 1<<32+2, math.MinInt64+2, math.MinInt64, math.MaxInt64) {
		wantIdOf(t, nodes, at, "")
		wantIdOf(t, nil, at, "")
		wantIdOf(t, []impl.Node{}, at, "")
	}
	wantIds(t, nodes, "x0", "", "x2", "")
}

func TestFindIdOfWhatNobodyHas(t *testing.T) {
	long := strings.Repeat("a", 12)
	nodes := []impl.Node{element(-1, "a", "x", "y", "Id", "x1"), element(0, "b"), textNode(1, "text"), element(0, "c", "Id", long)}
	for _, id := range []string{
		"", "x", "1", "x2", "x11", "xx1", "1x", "X1", " x1", "x1 ", "x1\n", "x1\x00", "\x00", "Id", "y", "a", "b", "c", "text", "-1", "0", "&", "\xff", "\u00e9",
		long[:11], long + "a", long[:11] + "b", strings.Repeat("a", 60), strings.Repeat("a", 61), strings.Repeat("a", 1<<20), strings.Repeat("x1", 5000),
	} {
		wantFindId(t, nodes, id, -1)
		wantFindId(t, nil, id, -1)
		wantFindId(t, wide(3), id, -1)
	}
	for b := range 256 {
		wantFindId(t, nodes, oneByte(b), -1)
		wantFindId(t, nodes, "x1"+oneByte(b), -1)
	}
	wantIds(t, nodes, "x1", "", "", long)
}

// Ids ask for a tree alone, and AllKnown asks for no Ids.
func TestIdsAndNamesAreAskedApart(t *testing.T) {
	for _, letter := range wronglyNamed() {
		nodes := letterTree(t, letter)
		wantIds(t, nodes, idsBut(len(nodes), nil)...)
		checkKnown(t, nodes)
		for _, at := range elementsOf(nodes) {
			if len(nodes[at].Attrs) < 6 {
				wantIds(t, withId(nodes, at, 0, "x1"), idsBut(len(nodes), map[int64]string{at: "x1"})...)
			}
			_, local := expectedParts(nodes[at].Name)
			for _, meaning := range []string{"", "u", "v", "w", "U"} {
				wantAllKnown(t, nodes, local, meaning)
			}
		}
	}
	// What is not right takes the answer from those that would be Known.
	wantAllKnown(t, letterTree(t, `<a><b/><q:c/></a>`), "b", "")
	wantAllKnown(t, letterTree(t, `<a><b/><c q:x="1"/></a>`), "b", "")
	wantAllKnown(t, letterTree(t, `<a><b/><c ns="U"/></a>`), "b", "")
	wantAllKnown(t, letterTree(t, `<a><b/><c/></a>`), "b", "", 1)
	for _, letter := range []string{`<a Id="x"><b Id="x"/></a>`, `<a Id=""><b/></a>`, `<a><b Id="X Y"/></a>`} {
		wantNoIds(t, letterTree(t, letter))
		wantAllKnown(t, letterTree(t, letter), "b", "", 1)
		wantAllKnown(t, letterTree(t, letter), "a", "", 0)
	}
}

func TestAllKnown(t *testing.T) {
	for _, c := range []struct {
		letter, local, meaning string
		want                   []int64
	}{
		// None, one, several.
		{`<a/>`, "a", "", []int64{0}}, {`<a/>`, "b", "", nil}, {`<a/>`, "a", "u", nil}, {`<a/>`, "", "", nil}, {`<a>a</a>`, "a", "", []int64{0}}, {`<a><b/>x<b/></a>`, "b", "", []int64{1, 3}}, {`<a><b/><c/><b/></a>`, "b", "", []int64{1, 3}}, {`<a><b/><c/><b/></a>`, "c", "", []int64{2}},
		{`<b><a/><a/></b>`, "b", "", []int64{0}}, {`<b><b/>b<b/></b>`, "b", "", []int64{0, 1, 3}}, {`<a><b/></a>`, "B", "", nil}, {`<a><b/></a>`, "bb", "", nil}, {`<a>x</a>`, "", "", nil}, {`<a>x</a>`, "x", "", nil},
		// One within another.
		{`<a><b><b/></b></a>`, "b", "", []int64{1, 2}}, {`<a><b><c><b>x<b/></b></c></b><b/></a>`, "b", "", []int64{1, 3, 5, 6}}, {`<b ns="u"><b ns="w"><b ns="u"/></b></b>`, "b", "u", []int64{0, 2}}, {`<b ns="u"><b ns="w"><b ns="u"/></b></b>`, "b", "w", []int64{1}},
		// By a prefix and without one.
		{`<p:a ns:p="u"/>`, "a", "u", []int64{0}}, {`<p:a ns:p="u"/>`, "a", "", nil}, {`<p:a ns:p="u"/>`, "p:a", "u", nil}, {`<p:a ns:p="u"/>`, "a", "p", nil}, {`<p:a ns:p="u"/>`, "p", "u", nil}, {`<a ns="u"><b/><b/></a>`, "b", "u", []int64{1, 2}}, {`<a ns="u"><b/><b/></a>`, "b", "", nil},
		{`<a ns="u" ns:p="u" ns:q="w"><b/><p:b/><q:b/></a>`, "b", "u", []int64{1, 2}}, {`<a ns="u" ns:p="u" ns:q="w"><b/><p:b/><q:b/></a>`, "b", "w", []int64{3}}, {`<a ns:p="u"><b/><p:b/></a>`, "b", "", []int64{1}}, {`<a ns:p="u"><b/><p:b/></a>`, "b", "u", []int64{2}},
		{`<a ns:p="u" ns:q="u"><p:b/>x<q:b/><q:c/></a>`, "b", "u", []int64{1, 3}}, {`<a ns:p="u"><b p:b="1"/></a>`, "b", "u", nil}, {`<a ns:b="u"><b/></a>`, "b", "u", nil},
		// By declarations further out and further in.
		{`<a ns:p="u"><b><p:c/></b><p:c/></a>`, "c", "u", []int64{2, 3}}, {`<a ns:p="u"><b ns:p="w"><p:c/></b><p:c/></a>`, "c", "u", []int64{3}}, {`<a ns:p="u"><b ns:p="w"><p:c/></b><p:c/></a>`, "c", "w", []int64{2}}, {`<a ns:p="u"><p:c ns:p="w"/><p:c/></a>`, "c", "w", []int64{1}},
		{`<a><p:c ns:p="u"/><q:c ns:q="u"/><c ns="u"/><c/></a>`, "c", "u", []int64{1, 2, 3}}, {`<a><p:c ns:p="u"/><q:c ns:q="u"/><c ns="u"/><c/></a>`, "c", "", []int64{4}}, {`<a ns="u"><c ns=""/><c/><d ns=""><c/></d></a>`, "c", "", []int64{1, 4}}, {`<a ns="u"><c ns=""/><c/><d ns=""><c/></d></a>`, "c", "u", []int64{2}},
		{`<p:Letter ns:p="claim"><c:Claim ns:c="claim"/><c:Claim ns:c="other"/></p:Letter>`, "Claim", "claim", []int64{1}}, {`<a ns="./09az"><b/></a>`, "b", "./09az", []int64{1}}, {`<ns ns="u"/>`, "ns", "u", []int64{0}},
	} {
		wantAllKnown(t, letterTree(t, c.letter), c.local, c.meaning, c.want...)
		checkKnown(t, letterTree(t, c.letter))
	}
	for _, word := range []string{" ", "\x00", "\xff", "a:", ":a", "a ", "u\n", strings.Repeat("a", 11), strings.Repeat("u", 21), strings.Repeat("a", 1<<20)} {
		wantAllKnown(t, letterTree(t, `<a ns="u"/>`), word, "u")
		wantAllKnown(t, letterTree(t, `<a ns="u"/>`), "a", word)
	}
}

func TestAllKnownOfMostNodes(t *testing.T) {
	for count := 49; count <= 51; count++ {
		nodes := wide(count)
		nodes[0].Attrs = attrs("ns", "u")
		var all []int64
		for at := range int64(min(count, 50)) {
			all = append(all, at)
		}
		if count > 50 {
			wantAllKnown(t, nodes, "b", "u")
			continue
		}
		wantAllKnown(t, nodes, "b", "u", all[1:]...)
		nodes[0].Name = "b"
		wantAllKnown(t, nodes, "b", "u", all...)
	}
	wantAllKnown(t, chain(9), "a", "", 0, 1, 2, 3, 4, 5, 6, 7, 8)
	wantAllKnown(t, chain(10), "a", "")
}

// idTree is a strewn one with Ids here and there; of the even seeds each is right and there once.
func idTree(seed int) []impl.Node {
	next := dice(seed + 1213)
	nodes := meaningTree(seed)
	some := []string{"x", "x1", "x2", strings.Repeat("a", 12), "claim", "letter", "0", "9", "a", "z", "", "X", strings.Repeat("a", 13), "x-1"}
	for at := range nodes {
		if nodes[at].Name == "" || len(nodes[at].Attrs) == 6 || next(2) == 0 {
			continue
		}
		id := idNumber(at)
		if seed%2 > 0 && next(3) == 0 {
			id = some[next(len(some))]
		}
		nodes[at].Attrs = withId(nodes, int64(at), next(len(nodes[at].Attrs)+1), id)[at].Attrs
	}
	return nodes
}

// Promise 12.
func TestWhoHasAnIdIsFoundInStrewnTrees(t *testing.T) {
	right, wrong, found, nobody := 0, 0, 0, 0
	for seed := range 400 {
		nodes := idTree(seed)
		checkIds(t, nodes)
		checkIds(t, strewnTree(seed))
		if !impl.IdsOk(nodes) {
			wrong++
			continue
		}
		right++
		for at, n := range nodes {
			own, ok := impl.ValueIn(n.Attrs, "Id")
			if got := impl.IdOf(nodes, int64(at)); got != own {
				t.Fatalf("IdOf(%+v, %d) = %q, not %q", nodes, at, got, own)
			}
			if !ok {
				nobody++
				continue
			}
			found++
			wantFindId(t, nodes, own, int64(at))
		}
	}
	if right < 200 || wrong < 100 || found < 2000 || nobody < 2000 {
		t.Errorf("%d trees are IdsOk, %d are not; %d were found, %d have no Id", right, wrong, found, nobody)
	}
}

// Promise 12: whoever is moved about is found where it then stands, and who is taken out is not found.
func TestWhoIsMovedIsFoundWhereItStands(t *testing.T) {
	moved, gone := 0, 0
	for seed := range 200 {
		nodes := idTree(2 * seed)
		at := int64(dice(seed)(len(nodes)))
		end := impl.EndOf(nodes, at)
		pruned, isPruned := impl.Pruned(nodes, at)
		wrapped, isWrapped := impl.Wrapped(nodes, at, "w")
		branch, isBranch := impl.Branch(nodes, at)
		for id, who := range expectedIds(nodes) {
			inside := who[0] >= at && who[0] < end
			if isBranch && inside {
				wantFindId(t, branch, id, who[0]-at)
			}
			if isWrapped {
				now := who[0]
				if now >= at {
					now++
				}
				wantFindId(t, wrapped, id, now)
				moved++
			}
			if isPruned && inside {
				wantFindId(t, pruned, id, -1)
				gone++
			} else if isPruned {
				wantIdOf(t, pruned, impl.FindId(pruned, id), id)
			}
		}
		if t.Failed() {
			t.FailNow()
		}
		// Its twin has the same Ids.
		if both, ok := impl.Grafted(nodes, 0, branch); ok {
			wantIdsOk(t, both, len(expectedIds(branch)) == 0)
		}
	}
	if moved < 500 || gone < 50 {
		t.Errorf("%d were moved, %d are gone", moved, gone)
	}
}

// Whom AllKnown names, Known says so of, and of nobody else.
func TestAllKnownIsWhomKnownSaysSoOf(t *testing.T) {
	several := 0
	for seed := range 150 {
		for _, nodes := range [][]impl.Node{meaningTree(seed), namedTree(seed)} {
			namesOk := impl.NamesOk(nodes)
			for _, local := range []string{"a", "b", "Claim", "c"} {
				for _, meaning := range []string{"", "u", "v", "w", "t"} {
					got := impl.AllKnown(nodes, local, meaning)
					wantAllKnown(t, nodes, local, meaning, expectedAllKnown(nodes, namesOk, local, meaning)...)
					for at := range int64(len(nodes)) {
						if known := impl.Known(nodes, at, local, meaning); slices.Contains(got, at) != (known && namesOk) {
							t.Fatalf("AllKnown(%+v, %q, %q) = %v, and Known of %d is %v", nodes, local, meaning, got, at, known)
						}
					}
					if len(got) > 1 {
						several++
					}
				}
			}
		}
	}
	if several < 300 {
		t.Errorf("only %d times several were told", several)
	}
}

// Promise 21 for chapter 12.
func TestIdentAnswersAreNewMemoryAndArgumentsStay(t *testing.T) {
	trees := append(memoryTrees(), letterTree(t, `<a Id="x1" ns="u"><b Id="x2"/>x1<b/></a>`), letterTree(t, `<a Id="x"><b Id="x"/></a>`), letterTree(t, hiding))
	for seed := range 20 {
		trees = append(trees, idTree(seed))
	}
	told, listed := 0, 0
	for _, given := range trees {
		tree := layTree(given)
		nodes := tree.nodes
		impl.IdsOk(nodes)
		for at := range int64(len(nodes)) {
			id, again := impl.IdOf(nodes, at), impl.IdOf(nodes, at)
			texts := append(tokenTexts(nodeTokens(nodes)), again)
			if slices.ContainsFunc(texts, func(s string) bool { return sharesMemory(id, s) }) {
				t.Errorf("IdOf %q lies in an argument, or in another answer", id)
			}
			if id != "" {
				told++
			}
		}
		for _, word := range []string{"", "a", "b", "u", "x1", "Claim", "nobody"} {
			on, buffer := laid(word)
			meaning, other := laid("u")
			impl.FindId(nodes, on)
			list, again := impl.AllKnown(nodes, on, meaning), impl.AllKnown(nodes, on, meaning)
			if sharesRoom(list, again) {
				t.Errorf("AllKnown tells one list twice: %v", list)
			}
			if len(list) > 0 {
				listed++
			}
			if string(buffer) != word+"spare room" || string(other) != "uspare room" {
				t.Errorf("the words %q and u became %q and %q", word, buffer, other)
			}
		}
		tree.stays(t)
	}
	if told < 100 || listed < 20 {
		t.Errorf("only %d Ids and %d lists were told", told, listed)
	}
}

// Promise 21 for chapter 12: an answer to whatever is given.
func TestIdentFunctionsAnswerEverywhere(t *testing.T) {
	right := 0
	for seed := range 20000 {
		next := dice(seed)
		nodes := anyNodes(next)
		for at := range nodes {
			if next(3) == 0 {
				nodes[at].Attrs = append(nodes[at].Attrs, attrs("Id", []string{"", "x", "y", "z", "X", "\xff"}[next(6)])...)
			}
		}
		checkIds(t, nodes)
		checkKnown(t, nodes)
		wantIdOf(t, nodes, farNumber(next), "")
		if impl.IdsOk(nodes) {
			right++
		}
	}
	if right < 20 {
		t.Errorf("only %d were IdsOk", right)
	}
	for b := range 256 {
		checkIds(t, []impl.Node{element(-1, "a", "Id", "x"), element(0, "b", "Id"+oneByte(b), "x", oneByte(b)+"Id", "x")})
		checkIds(t, []impl.Node{element(-1, "a", "Id", oneByte(b)), element(0, "b", "Id", "x")})
		checkKnown(t, []impl.Node{element(-1, oneByte(b), "ns", oneByte(b)), element(0, "b")})
	}
}
