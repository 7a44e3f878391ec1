package tests

import (
	"fmt"
	"math"
	"regexp"
	"slices"
	"strings"
	"testing"

	"loop.example/g00379/impl"
)

// Keys of unlike primes and powers.
var (
	houseKey = impl.Key{N: 2621429689, E: 17, D: 925173233}
	thirdKey = impl.Key{N: 2998608073, E: 3, D: 1998997859}
	leastKey = impl.Key{N: 2147484323, E: 5, D: 1288433693}
	mostKey  = impl.Key{N: 2999999311, E: 7, D: 857111143}
)

func sealKeys() []impl.Key { return []impl.Key{houseKey, thirdKey, leastKey, mostKey} }

func publicKey(k impl.Key) impl.Key { return impl.Key{N: k.N, E: k.E} }

// wrongKeys are none, each by one number alone, most of them.
func wrongKeys() []impl.Key {
	const n, e, d = 2621429689, 17, 925173233
	var list []impl.Key
	for _, c := range [][3]int64{
		{}, {0, e, d}, {n, 0, d}, {n, 2, d}, {n, n, d}, {n, -e, d}, {-n, e, d}, {minModulus - 1, e, d}, {maxModulus + 1, e, d}, {1<<32 + n, e, d}, {n, 1<<32 + e, d},
		{n, e, 1}, {n, e, 2}, {n, e, -1}, {n, e, -d}, {n, e, n}, {n, e, n + 1}, {n, e, 1<<32 + d}, {n, e, math.MinInt64}, {n, e, math.MaxInt64}, {n, math.MinInt64, d}, {math.MaxInt64, e, d},
	} {
		list = append(list, keyFrom(c))
	}
	return list
}

var tenDigits = regexp.MustCompile(`\A[0-9]{10}\z`)

func expectedSpoken(ref, sum string) string { return fmt.Sprintf("Ref=%s;Sum=%s", ref, sum) }

// expectedSeal holds what a seal of a NamesOk tree says under the Names of its Attrs.
func expectedSeal(t []impl.Node, at int64) (map[string]string, bool) {
	if !expectedKnown(t, at, "Seal", "seal") || len(expectedKids(t, at)) > 0 {
		return nil, false
	}
	words := map[string]string{}
	for _, a := range t[at].Attrs {
		if _, is := expectedDeclared(a); !is {
			words[a.Name] = a.Value
		}
	}
	_, hasRef := words["Ref"]
	return words, hasRef && len(words) == 3 && tenDigits.MatchString(words["Sum"]) && tenDigits.MatchString(words["Sign"])
}

func expectedSum(t []impl.Node, at, but int64) string {
	return expectedDigits(expectedHash(expectedCanon(t, at, but)))
}

func expectedSign(k impl.Key, ref, sum string) string {
	return expectedDigits(expectedLocked(k, expectedHash(expectedSpoken(ref, sum))))
}

func expectedSealedBy(t []impl.Node, at int64, k impl.Key) bool {
	if at < 1 || at >= int64(len(t)) || !expectedNamesOk(t) || !expectedIdsOk(t) {
		return false
	}
	words, is := expectedSeal(t, at)
	if !is || !slices.Contains(expectedIds(t)[words["Ref"]], t[at].Parent) {
		return false
	}
	sign, _ := expectedNumber(words["Sign"])
	return words["Sum"] == expectedSum(t, t[at].Parent, at) && expectedOpened(k, sign) == expectedHash(expectedSpoken(words["Ref"], words["Sum"]))
}

func expectedSealsOf(t []impl.Node, at int64) []int64 {
	if at < 0 || !expectedNamesOk(t) {
		return nil
	}
	var list []int64
	for _, kid := range expectedKids(t, at) {
		if _, is := expectedSeal(t, kid); is {
			list = append(list, kid)
		}
	}
	return list
}

// expectedOwnId tells the Id of a Node, and whether it has one.
func expectedOwnId(t []impl.Node, at int64) (string, bool) {
	for id, who := range expectedIds(t) {
		if slices.Contains(who, at) {
			return id, true
		}
	}
	return "", false
}

func sealNode(parent int64, ref, sum, sign string) impl.Node {
	return element(parent, "s:Seal", "ns:s", "seal", "Ref", ref, "Sum", sum, "Sign", sign)
}

func expectedSealing(t []impl.Node, at int64, k impl.Key) ([]impl.Node, bool) {
	if !expectedTreeOk(t) {
		return nil, false
	}
	id, has := expectedOwnId(t, at)
	if !has || !expectedNamesOk(t) || !expectedIdsOk(t) || len(expectedSealsOf(t, at)) > 0 {
		return t, false
	}
	sum := expectedSum(t, at, -1)
	sealed, ok := expectedGrafted(t, at, []impl.Node{sealNode(-1, id, sum, expectedSign(k, id, sum))})
	if !ok || !expectedSealedBy(sealed, at+expectedSize(t, at), k) {
		return t, false
	}
	return sealed, true
}

func wantSealedBy(t *testing.T, nodes []impl.Node, at int64, k impl.Key, want bool) {
	t.Helper()
	if got := expectedSealedBy(nodes, at, k); got != want {
		t.Errorf("of %+v, %d, %v the oracle says %v", nodes, at, k, got)
	}
	if got := impl.SealedBy(nodes, at, k); got != want {
		t.Errorf("SealedBy(%+v, %d, %v) = %v", nodes, at, k, got)
	}
}

func wantSealsOf(t *testing.T, nodes []impl.Node, at int64, want ...int64) {
	t.Helper()
	if got := expectedSealsOf(nodes, at); !slices.Equal(got, want) {
		t.Errorf("of %+v, %d the oracle says %v, not %v", nodes, at, got, want)
	}
	if got := impl.SealsOf(nodes, at); !slices.Equal(got, want) {
		t.Errorf("SealsOf(%+v, %d) = %v, not %v", nodes, at, got, want)
	}
}

func wantSealing(t *testing.T, nodes []impl.Node, at int64, k impl.Key, want answer) {
	t.Helper()
	wantTold(t, "Sealing", nodes, at, told(impl.Sealing(nodes, at, k)), want)
	wantTold(t, "the oracle's Sealing", nodes, at, told(expectedSealing(nodes, at, k)), want)
}

// checkSeals asks all that can be asked of Nodes, whatever they are, by these keys.
func checkSeals(t *testing.T, nodes []impl.Node, keys ...impl.Key) {
	t.Helper()
	// It is asked of thousands: one that fails tells enough.
	if t.Failed() {
		t.FailNow()
	}
	for at := int64(-2); at <= int64(len(nodes))+1; at++ {
		wantSealsOf(t, nodes, at, expectedSealsOf(nodes, at)...)
		for _, k := range keys {
			wantSealedBy(t, nodes, at, k, expectedSealedBy(nodes, at, k))
			wantSealing(t, nodes, at, k, told(expectedSealing(nodes, at, k)))
		}
	}
}

// sealedTree is that of Sealing, which must not be refused, and where the seal is in it.
func sealedTree(t *testing.T, nodes []impl.Node, at int64, k impl.Key) ([]impl.Node, int64) {
	t.Helper()
	sealed, ok := impl.Sealing(nodes, at, k)
	if !ok {
		t.Fatalf("Sealing(%+v, %d, %v) is refused", nodes, at, k)
	}
	return sealed, impl.EndOf(nodes, at)
}

// wantSealed holds that a tree is sealed there: by the key and by its public one, by no other.
func wantSealed(t *testing.T, nodes []impl.Node, at int64, by impl.Key) {
	t.Helper()
	for _, k := range sealKeys() {
		wantSealedBy(t, nodes, at, k, k == by)
		wantSealedBy(t, nodes, at, publicKey(k), k == by)
	}
}

// wantNotSealed holds that no key has sealed it there.
func wantNotSealed(t *testing.T, nodes []impl.Node, at int64) {
	t.Helper()
	wantSealed(t, nodes, at, impl.Key{})
}

// signedSeal is as the seal there should be, whatever it is put at and whatever its Ref is: only the Sum is that of the Parent but it, and both are signed.
func signedSeal(nodes []impl.Node, at int64, ref string, k impl.Key) []impl.Node {
	out := slices.Clone(nodes)
	sum := expectedSum(nodes, nodes[at].Parent, at)
	words := map[string]string{"Ref": ref, "Sum": sum, "Sign": expectedSign(k, ref, sum)}
	out[at].Attrs = slices.Clone(out[at].Attrs)
	for i, a := range out[at].Attrs {
		if word, is := words[a.Name]; is {
			out[at].Attrs[i].Value = word
		}
	}
	return out
}

// forged is a tree of a letter whose Node at is to become a seal that k signs for this Ref; the Attrs are in the letter, their Values need not be.
func forged(t *testing.T, letter string, at int64, ref string, k impl.Key) []impl.Node {
	t.Helper()
	return signedSeal(letterTree(t, letter), at, ref, k)
}

const someSeal = `<s:Seal ns:s="seal" Ref="x1" Sum="0000000001" Sign="0000000002"/>`

func TestSpokenOfTexts(t *testing.T) {
	for _, c := range [][3]string{
		{"x1", "7", "Ref=x1;Sum=7"}, {"x1", "0528779874", "Ref=x1;Sum=0528779874"}, {"", "", "Ref=;Sum="}, {"a", "", "Ref=a;Sum="}, {"", "a", "Ref=;Sum=a"}, {"Ref=", ";Sum=", "Ref=Ref=;Sum=;Sum="}, {"a;Sum=b", "c", "Ref=a;Sum=b;Sum=c"}, {" ", "\n", "Ref= ;Sum=\n"}, {"&<>\"", "&amp;", "Ref=&<>\";Sum=&amp;"},
	} {
		if got := impl.Spoken(c[0], c[1]); got != c[2] {
			t.Errorf("Spoken(%q, %q) = %q, not %q", c[0], c[1], got, c[2])
		}
	}
	long := strings.Repeat("a", 1<<20)
	for _, ref := range []string{"", "x", "\x00", "\xff", "\u00e9", allBytes(), allPlain(), long} {
		for _, sum := range []string{"", "1", "\x00", "\xff", allBytes(), long} {
			if got := impl.Spoken(ref, sum); got != expectedSpoken(ref, sum) {
				t.Errorf("Spoken of %d and %d bytes is %d bytes", len(ref), len(sum), len(got))
			}
		}
	}
}

// Sums and Signs of these were worked out apart from the program, of the part as it is written here.
func TestSealingOfParts(t *testing.T) {
	for _, c := range []struct {
		letter              string
		at                  int64
		key                 impl.Key
		part, id, sum, sign string
		want                string
	}{
		// At the first Node; with kids, with texts, with none.
		{`<a Id="x1"><b>t</b></a>`, 0, houseKey, `<a Id="x1"><b>t</b></a>`, "x1", "0528779874", "2075311651", `<a Id="x1"><b>t</b>%s</a>`},
		{`<a Id="x1"/>`, 0, houseKey, `<a Id="x1"></a>`, "x1", "1338125706", "2591045393", `<a Id="x1">%s</a>`},
		{`<a Id="x1"/>`, 0, thirdKey, `<a Id="x1"></a>`, "x1", "1338125706", "0082999091", `<a Id="x1">%s</a>`},
		{`<a Id="x1">t</a>`, 0, houseKey, `<a Id="x1">t</a>`, "x1", "0465261305", "0469093998", `<a Id="x1">t%s</a>`},
		{`<a Id="aaaaaaaaaaaa"/>`, 0, houseKey, `<a Id="aaaaaaaaaaaa"></a>`, "aaaaaaaaaaaa", "1888201299", "0987265739", `<a Id="aaaaaaaaaaaa">%s</a>`},
		{`<a x="&amp;&lt;&gt;&quot;" Id="0"/>`, 0, houseKey, `<a Id="0" x="&amp;&lt;>&quot;"></a>`, "0", "0613662259", "1669037517", `<a x="&amp;&lt;>&quot;" Id="0">%s</a>`},
		{`<p:a ns:p="u" ns="d" Id="claim1"><b/></p:a>`, 0, mostKey, `<p:a ns:p="u" Id="claim1"><b ns="d"></b></p:a>`, "claim1", "2103334909", "1068158994", `<p:a ns:p="u" ns="d" Id="claim1"><b></b>%s</p:a>`},
		// Further in, and at the last one.
		{`<a Id="x1"><b Id="b"/><c/></a>`, 1, houseKey, `<b Id="b"></b>`, "b", "1096175886", "1789036074", `<a Id="x1"><b Id="b">%s</b><c></c></a>`},
		{`<a><b/><c Id="c">&lt;</c></a>`, 2, leastKey, `<c Id="c">&lt;</c>`, "c", "0090680325", "1016199143", `<a><b></b><c Id="c">&lt;%s</c></a>`},
		{`<a ns="d" ns:p="u">w<b x="1" Id="in">y<c/>z</b>v</a>`, 2, mostKey, `<b ns="d" Id="in" x="1">y<c></c>z</b>`, "in", "0437728204", "2609125128", `<a ns="d" ns:p="u">w<b x="1" Id="in">y<c></c>z%s</b>v</a>`},
		{`<a><b Id="in">t</b></a>`, 1, houseKey, `<b Id="in">t</b>`, "in", "1862879178", "1915482905", `<a><b Id="in">t%s</b></a>`},
	} {
		nodes := letterTree(t, c.letter)
		wantCanon(t, nodes, c.at, -1, c.part)
		seal := fmt.Sprintf(`<s:Seal ns:s="seal" Ref="%s" Sum="%s" Sign="%s"></s:Seal>`, c.id, c.sum, c.sign)
		want := fmt.Sprintf(c.want, seal)
		wantSealing(t, nodes, c.at, c.key, answer{letterTree(t, want), true})
		sealed, at := sealedTree(t, nodes, c.at, c.key)
		if got := impl.ShowTree(sealed); got != want {
			t.Errorf("%q, %d: sealed %q, not %q", c.letter, c.at, got, want)
		}
		if !sameNode(sealed[at], sealNode(c.at, c.id, c.sum, c.sign)) {
			t.Errorf("%q, %d: the seal is %+v", c.letter, c.at, sealed[at])
		}
		wantSealed(t, sealed, at, c.key)
		wantSealsOf(t, sealed, c.at, at)
		checkSeals(t, sealed, houseKey, thirdKey)
		checkSeals(t, nodes, houseKey, publicKey(houseKey))
	}
}

// Promise 13, element by element: what was there stands where Grafted leaves it.
func TestEachElementWithAnIdIsSealed(t *testing.T) {
	for _, nodes := range [][]impl.Node{middleTree(), chain(8), chain(7, textNode(0, "x")), wide(49), wide(1), letterTree(t, `<a ns="seal"><Seal/><b ns="">Seal</b></a>`), letterTree(t, `<s:a ns:s="u"><s:b ns:s="seal"/>s<b s:Ref="1"/></s:a>`)} {
		for i, at := range elementsOf(nodes) {
			k := sealKeys()[i%4]
			given := withId(nodes, at, i%2*len(nodes[at].Attrs), idNumber(i))
			sealed, seal := sealedTree(t, given, at, k)
			wantSealing(t, given, at, k, answer{sealed, true})
			wantSealed(t, sealed, seal, k)
			wantSealsOf(t, sealed, at, seal)
			if less, ok := impl.Pruned(sealed, seal); !ok || !sameTree(less, given) {
				t.Errorf("%+v without its seal is %+v, not %+v", sealed, less, given)
			}
			if kids := impl.KidsOf(sealed, at); kids[len(kids)-1] != seal || impl.IdOf(sealed, at) != idNumber(i) {
				t.Errorf("the seal of %+v is not the last at %d", sealed, at)
			}
		}
	}
}

func TestTwoElementsAreSealedOneAfterTheOther(t *testing.T) {
	// Side by side neither is in the other's part, whichever comes first.
	beside := letterTree(t, `<a><b Id="b">x</b><c Id="c"><d/></c></a>`)
	one, seal := sealedTree(t, beside, 1, houseKey)
	both, other := sealedTree(t, one, 4, thirdKey)
	wantSealed(t, both, seal, houseKey)
	wantSealed(t, both, other, thirdKey)
	one, _ = sealedTree(t, beside, 3, thirdKey)
	again, _ := sealedTree(t, one, 1, houseKey)
	if !sameTree(again, both) {
		t.Errorf("%+v and %+v are unlike", again, both)
	}
	wantSealsOf(t, both, 0)
	wantSealsOf(t, both, 1, 3)
	wantSealsOf(t, both, 4, 6)
	// The inner one first: its seal is in the outer one's part.
	within := letterTree(t, `<a Id="a">x<b Id="b">y</b>z</a>`)
	one, inner := sealedTree(t, within, 2, houseKey)
	both, outer := sealedTree(t, one, 0, thirdKey)
	wantSealed(t, both, inner, houseKey)
	wantSealed(t, both, outer, thirdKey)
	wantSealsOf(t, both, 0, 6)
	wantSealsOf(t, both, 2, 4)
	bare, _ := impl.Pruned(both, inner)
	wantNotSealed(t, bare, outer-1)
	bare, _ = impl.Pruned(both, outer)
	wantSealed(t, bare, inner, houseKey)
	// The outer one first: by the inner seal its part becomes another.
	one, outer = sealedTree(t, within, 0, thirdKey)
	wantSealed(t, one, outer, thirdKey)
	both, inner = sealedTree(t, one, 2, houseKey)
	wantSealed(t, both, inner, houseKey)
	wantNotSealed(t, both, outer+1)
	wantSealsOf(t, both, 0, 6)
	// All of nine in one another, the innermost first.
	nodes := chain(8)
	for at := range nodes {
		nodes[at].Attrs = attrs("Id", idNumber(at))
	}
	for at := int64(7); at >= 0; at-- {
		nodes, _ = sealedTree(t, nodes, at, sealKeys()[at%4])
	}
	for at := range int64(8) {
		wantSealsOf(t, nodes, at, 15-at)
		wantSealed(t, nodes, 15-at, sealKeys()[at%4])
	}
}

func TestSealsByWhateverPrefixMeansSeal(t *testing.T) {
	for _, c := range []struct {
		letter string
		at     int64
	}{
		{`<a Id="x1"><s:Seal ns:s="seal" Ref="" Sum="" Sign=""/></a>`, 1}, {`<a Id="x1"><p:Seal ns:p="seal" Ref="" Sum="" Sign=""/></a>`, 1}, {`<a Id="x1"><Seal ns="seal" Ref="" Sum="" Sign=""/></a>`, 1}, {`<a Id="x1"><Seal:Seal ns:Seal="seal" Ref="" Sum="" Sign=""/></a>`, 1},
		// Declared further out, or there otherwise.
		{`<a Id="x1" ns:s="seal"><s:Seal Ref="" Sum="" Sign=""/></a>`, 1}, {`<a Id="x1" ns="seal"><Seal Ref="" Sum="" Sign=""/></a>`, 1}, {`<o ns:q="seal"><a Id="x1"><q:Seal Ref="" Sum="" Sign=""/></a></o>`, 2}, {`<o ns="seal" ns:s="u"><s:a Id="x1">x<Seal Ref="" Sum="" Sign=""/>y</s:a></o>`, 3}, {`<a Id="x1" ns:s="other"><s:Seal ns:s="seal" Ref="" Sum="" Sign=""/></a>`, 1}, {`<s:a ns:s="seal" Id="x1"><s:Seal Ref="" Sum="" Sign=""/></s:a>`, 1}, {`<o ns:s="u"><a ns:s="seal" Id="x1"><s:Seal Ref="" Sum="" Sign=""/></a></o>`, 2},
		// Other declarations beside, needed or not.
		{`<a Id="x1"><s:Seal ns:s="seal" ns="u" ns:p="w" Ref="" Sum="" Sign=""/></a>`, 1}, {`<a Id="x1"><s:Seal ns:Ref="u" Ref="" ns:s="seal" Sum="" ns:Sum="w" Sign=""/></a>`, 1}, {`<a Id="x1"><s:Seal ns:s="seal" ns="" Ref="" Sum="" Sign=""/></a>`, 1},
		// First of all, between, and last.
		{`<a Id="x1"><s:Seal ns:s="seal" Ref="" Sum="" Sign=""/><b/>x</a>`, 1}, {`<a Id="x1">x<s:Seal ns:s="seal" Ref="" Sum="" Sign=""/>y<b/></a>`, 2}, {`<a Id="x1">x<b><c/></b><s:Seal ns:s="seal" Ref="" Sum="" Sign=""/></a>`, 4},
		// Itself named so.
		{`<s:Seal ns:s="seal" Id="x1"><s:Seal Ref="" Sum="" Sign=""/></s:Seal>`, 1},
	} {
		for _, k := range []impl.Key{houseKey, leastKey} {
			nodes := forged(t, c.letter, c.at, "x1", k)
			wantSealed(t, nodes, c.at, k)
			wantSealsOf(t, nodes, nodes[c.at].Parent, c.at)
			wantSealing(t, nodes, nodes[c.at].Parent, k, asItIs(nodes))
			checkSeals(t, nodes, k, thirdKey)
		}
	}
	// Otherwise all is as it should be, only it does not mean that.
	for _, name := range []string{`s:Seal ns:s="Seal"`, `s:Seal ns:s="s"`, `s:Seal ns:s="seals"`, `s:seal ns:s="seal"`, `s:SEAL ns:s="seal"`, `s:Seals ns:s="seal"`, `s:s ns:s="seal"`, `Seal ns:s="seal"`, `Seal ns:Seal="seal"`, `seal ns="Seal"`, `Seal`, `Seal ns=""`, `p:Seal ns:s="seal" ns:p="u"`, `p:Seal ns:s="seal"`, `s:Seal ns="seal"`, `s:Seal`} {
		name, declares, _ := strings.Cut(name, " ")
		for _, around := range []string{"", ` ns:q="seal"`} {
			letter := fmt.Sprintf(`<a Id="x1"%s><%s %s Ref="" Sum="" Sign=""/></a>`, around, name, declares)
			nodes := forged(t, strings.ReplaceAll(letter, "  ", " "), 1, "x1", houseKey)
			wantNotSealed(t, nodes, 1)
			wantSealsOf(t, nodes, 0)
			checkSeals(t, nodes, houseKey)
		}
	}
}

// eachOrder goes through all orders of a list.
func eachOrder[T any](list []T, do func([]T)) {
	if len(list) == 0 {
		do(nil)
	}
	for i, one := range list {
		eachOrder(slices.Delete(slices.Clone(list), i, i+1), func(rest []T) { do(append([]T{one}, rest...)) })
	}
}

func TestAttrsOfASealInEveryOrder(t *testing.T) {
	sealed, at := sealedTree(t, letterTree(t, `<a Id="x1"><b>t</b></a>`), 0, houseKey)
	orders := 0
	for _, more := range [][]impl.Attr{nil, attrs("ns", "u"), attrs("ns:Sum", "u", "ns:p", "seal")} {
		eachOrder(append(slices.Clone(sealed[at].Attrs), more...), func(list []impl.Attr) {
			orders++
			nodes := slices.Clone(sealed)
			nodes[at].Attrs = list
			if !impl.SealedBy(nodes, at, houseKey) || impl.SealedBy(nodes, at, thirdKey) || !slices.Equal(impl.SealsOf(nodes, 0), []int64{at}) {
				t.Errorf("by %+v it is not sealed", list)
			}
		})
	}
	if orders != 24+120+720 {
		t.Errorf("%d orders", orders)
	}
}

func TestSealsOfKids(t *testing.T) {
	for _, c := range []struct {
		letter string
		at     int64
		want   []int64
	}{
		// None, one, several; of whatever they say, as long as it is of their form.
		{`<a/>`, 0, nil}, {`<a>x<b/></a>`, 0, nil}, {`<a Id="x1"><b/></a>`, 0, nil}, {`<a>` + someSeal + `</a>`, 0, []int64{1}}, {`<a>x` + someSeal + `y</a>`, 0, []int64{2}}, {`<a>` + someSeal + someSeal + `</a>`, 0, []int64{1, 2}}, {`<a>` + someSeal + `x` + someSeal + `<b/>` + someSeal + `</a>`, 0, []int64{1, 3, 5}}, {`<a><b><c/></b>` + someSeal + `</a>`, 0, []int64{3}},
		{`<a ns="seal"><Seal Ref="" Sum="0123456789" Sign="9876543210"/><Seal/></a>`, 0, []int64{1}}, {`<a ns:s="seal"><s:Seal Sign="9999999999" Ref="&lt;&amp; X" Sum="0000000000"/></a>`, 0, []int64{1}},
		// Only kids, not what is further in or around.
		{`<a><b>` + someSeal + `</b></a>`, 0, nil}, {`<a><b>` + someSeal + `</b></a>`, 1, []int64{2}}, {`<a><b/>` + someSeal + `</a>`, 1, nil}, {`<a><b>` + someSeal + `</b>` + someSeal + `</a>`, 0, []int64{3}}, {`<a><b>x` + someSeal + `</b>` + someSeal + `</a>`, 1, []int64{3}}, {someSeal, 0, nil}, {`<a>` + someSeal + `</a>`, 1, nil},
		// Ids are not asked.
		{`<a Id="X"><b Id="X"/>` + someSeal + `</a>`, 0, []int64{2}}, {`<a Id="x1"><b Id="x1">` + someSeal + `</b></a>`, 1, []int64{2}},
		// A text, and where there is nobody.
		{`<a>x` + someSeal + `</a>`, 1, nil}, {`<a>` + someSeal + `</a>`, -1, nil}, {`<a>` + someSeal + `</a>`, -2, nil}, {`<a>` + someSeal + `</a>`, 2, nil},
		// Another thing is wrong somewhere else.
		{`<a>` + someSeal + `<p:b/></a>`, 0, nil}, {`<a ns="U">` + someSeal + `</a>`, 0, nil}, {`<a>` + someSeal + `<b q:x="1"/></a>`, 0, nil},
	} {
		nodes := letterTree(t, c.letter)
		wantSealsOf(t, nodes, c.at, c.want...)
		checkSeals(t, nodes, houseKey)
	}
	for count := 48; count <= 51; count++ {
		nodes, want := wide(1), []int64(nil)
		nodes[0].Attrs = attrs("ns:s", "seal")
		for len(nodes) < count {
			want = append(want, int64(len(nodes)))
			nodes = append(nodes, element(0, "s:Seal", "Ref", "", "Sum", "0000000000", "Sign", "0000000000"))
		}
		if count > 50 {
			want = nil
		}
		wantSealsOf(t, nodes, 0, want...)
	}
}

// Several seals at one element: each is in the part of the others, and each of them can be right.
func TestSeveralSealsOfOneElement(t *testing.T) {
	nodes, first := sealedTree(t, letterTree(t, `<a Id="x1">t</a>`), 0, houseKey)
	// The second is put on what has the first; by it the first one's part is another.
	nodes = append(nodes, sealNode(0, "x1", "", ""))
	nodes = signedSeal(nodes, first+1, "x1", thirdKey)
	wantSealed(t, nodes, first+1, thirdKey)
	wantNotSealed(t, nodes, first)
	wantSealsOf(t, nodes, 0, first, first+1)
	wantSealing(t, nodes, 0, houseKey, asItIs(nodes))
	less, _ := impl.Pruned(nodes, first+1)
	wantSealed(t, less, first, houseKey)
	less, _ = impl.Pruned(nodes, first)
	wantNotSealed(t, less, first)
}

// wantOneWord holds of a word of a seal whether it is still a seal with that; where it is none, it seals nothing, and another seal can be put on.
func wantOneWord(t *testing.T, name, word string, isSeal bool) {
	t.Helper()
	nodes, at := sealedTree(t, letterTree(t, `<a Id="x1"><b>t</b></a>`), 0, houseKey)
	for i, a := range nodes[at].Attrs {
		if a.Name == name {
			nodes[at].Attrs[i].Value = word
		}
	}
	wantNotSealed(t, nodes, at)
	if isSeal {
		wantSealsOf(t, nodes, 0, at)
		wantSealing(t, nodes, 0, houseKey, asItIs(nodes))
		return
	}
	wantSealsOf(t, nodes, 0)
	if expectedTreeOk(nodes) {
		sealed, seal := sealedTree(t, nodes, 0, houseKey)
		wantSealed(t, sealed, seal, houseKey)
		wantSealsOf(t, sealed, 0, seal)
	}
}

func TestSumAndSignAreTenDigits(t *testing.T) {
	for _, name := range []string{"Sum", "Sign"} {
		for length := range 61 {
			for _, digit := range []string{"0", "1", "9"} {
				wantOneWord(t, name, strings.Repeat(digit, length), length == 10)
			}
		}
		for b := range 256 {
			sign, digit := oneByte(b), b >= '0' && b <= '9'
			wantOneWord(t, name, sign+"528779875", digit)
			wantOneWord(t, name, "052877"+sign+"975", digit)
			wantOneWord(t, name, "152877987"+sign, digit)
			wantOneWord(t, name, "0528779874"+sign, false)
			wantOneWord(t, name, sign+"2075311651", false)
		}
		for _, word := range []string{"-000000001", "+000000001", " 000000001", "000000001 ", "00000000.1", "0x00000001", "1e00000000", "528779874", "00528779874", "2147483647", "9999999999", "3000000000"} {
			wantOneWord(t, name, word, tenDigits.MatchString(word))
		}
	}
	// By a number that is as much modulo N it would be opened alike: that is none of them.
	nodes, at := sealedTree(t, letterTree(t, `<a Id="x1"><b>t</b></a>`), 0, houseKey)
	sign, _ := expectedNumber(nodes[at].Attrs[3].Value)
	for more := sign + houseKey.N; more <= 9999999999; more += houseKey.N {
		wantOneWord(t, "Sign", expectedDigits(more), true)
	}
}

func TestASealHasJustTheseAttrs(t *testing.T) {
	sealed, at := sealedTree(t, letterTree(t, `<a Id="x1" ns:p="u"><b>t</b></a>`), 0, houseKey)
	with := func(list []impl.Attr) []impl.Node {
		nodes := slices.Clone(sealed)
		nodes[at].Attrs = list
		return nodes
	}
	none := func(list []impl.Attr) {
		t.Helper()
		nodes := with(list)
		wantNotSealed(t, nodes, at)
		wantSealsOf(t, nodes, 0)
		checkSeals(t, nodes, houseKey)
	}
	own := sealed[at].Attrs
	// One left out, two, all.
	for i := range own {
		none(slices.Delete(slices.Clone(own), i, i+1))
		for j := range i {
			none(slices.Delete(slices.Delete(slices.Clone(own), i, i+1), j, j+1))
		}
	}
	none(nil)
	none(own[:1])
	// One more, in each place.
	for _, name := range []string{"x", "Id", "ref", "sum", "sign", "Refs", "R", "nsx", "p:Ref", "p:Sum", "p:Sign", "s:Ref", "s:x", "Seal"} {
		for i := range len(own) + 1 {
			for _, value := range []string{"", "x2", "0528779874"} {
				none(slices.Insert(slices.Clone(own), i, impl.Attr{Name: name, Value: value}))
			}
		}
	}
	// One under another Name.
	for i := 1; i < len(own); i++ {
		for _, name := range []string{"x", "Id", "ref", "sum", "sign", "REF", "p:Ref", "p:Sum", "p:Sign", "s:Ref", "s:Sum", "s:Sign", "ns:Ref", "ns", "Value"} {
			list := slices.Clone(own)
			list[i].Name = name
			none(list)
		}
	}
	// One of another's Name is no tree.
	for i := 1; i < len(own); i++ {
		for j := 1; j < len(own); j++ {
			list := slices.Clone(own)
			list[i].Name = own[j].Name
			wantSealedBy(t, with(list), at, houseKey, i == j)
		}
	}
	// Declarations are not counted, as long as there is room.
	for _, more := range [][]impl.Attr{attrs("ns", "u"), attrs("ns", ""), attrs("ns:q", "u"), attrs("ns:Ref", "seal"), attrs("ns:p", "w", "ns", "seal")} {
		nodes := with(append(slices.Clone(own), more...))
		wantSealed(t, nodes, at, houseKey)
		wantSealsOf(t, nodes, 0, at)
	}
	none(append(slices.Clone(own), attrs("ns:p", "w", "ns", "seal", "ns:q", "u")...))
	none(append(slices.Clone(own), attrs("ns", "U")...))
}

func TestSomethingWithinASeal(t *testing.T) {
	sealed, at := sealedTree(t, letterTree(t, `<a Id="x1"><b>t</b></a>`), 0, houseKey)
	for _, in := range []impl.Node{textNode(at, "x"), textNode(at, " "), textNode(at, "\n"), element(at, "c"), element(at, "s:x"), sealNode(at, "x1", "0000000001", "0000000002")} {
		nodes := append(slices.Clone(sealed), in)
		wantNotSealed(t, nodes, at)
		wantSealsOf(t, nodes, 0)
		checkSeals(t, nodes, houseKey)
		// Now another one can be put on.
		again, seal := sealedTree(t, nodes, 0, thirdKey)
		wantSealed(t, again, seal, thirdKey)
		wantSealsOf(t, again, 0, seal)
	}
	wantSealsOf(t, append(slices.Clone(sealed), sealNode(at, "x1", "0000000001", "0000000002")), at, at+1)
	// What stands behind it is not in it, but in the part.
	behind := append(slices.Clone(sealed), textNode(0, "x"))
	wantSealsOf(t, behind, 0, at)
	wantNotSealed(t, behind, at)
	wantSealed(t, signedSeal(behind, at, "x1", thirdKey), at, thirdKey)
	wantSealed(t, forged(t, `<a Id="x1"><s:Seal ns:s="seal" Ref="" Sum="" Sign=""><!-- r --></s:Seal></a>`, 1, "x1", houseKey), 1, houseKey)
}

// It has no Parent, whatever it says: neither an empty Ref nor the Hash of nothing makes one.
func TestASealThatIsTheFirstNode(t *testing.T) {
	nothing := expectedDigits(expectedHash(""))
	for _, ref := range []string{"", "x1", "-1", "s"} {
		for _, sum := range []string{nothing, "0000000000", expectedDigits(expectedHash(ref))} {
			nodes := []impl.Node{sealNode(-1, ref, sum, expectedSign(houseKey, ref, sum))}
			wantNotSealed(t, nodes, 0)
			wantSealing(t, nodes, 0, houseKey, asItIs(nodes))
			checkSeals(t, nodes, houseKey)
		}
	}
	own := []impl.Node{sealNode(-1, "x1", nothing, expectedSign(houseKey, "x1", nothing))}
	own[0].Attrs = append(own[0].Attrs, attrs("Id", "x1")...)
	wantNotSealed(t, own, 0)
	// That one is no seal, but has an Id, and can be sealed.
	sealed, at := sealedTree(t, own, 0, houseKey)
	wantSealed(t, sealed, at, houseKey)
	wantNotSealed(t, sealed, 0)
}

func TestRefIsTheIdOfTheParent(t *testing.T) {
	const letter = `<a Id="out"><b Id="in">x<s:Seal ns:s="seal" Ref="" Sum="" Sign=""/><c Id="kid"/></b><d Id="aside"/></a>`
	for _, ref := range []string{"in", "out", "kid", "aside", "", "nobody", "In", "in ", " in", "i", "inn", "b", "1"} {
		nodes := forged(t, letter, 3, ref, houseKey)
		wantSealsOf(t, nodes, 1, 3)
		if ref == "in" {
			wantSealed(t, nodes, 3, houseKey)
		} else {
			wantNotSealed(t, nodes, 3)
		}
		// It is a seal that the element has, whomever it seals.
		wantSealing(t, nodes, 1, houseKey, asItIs(nodes))
		checkSeals(t, nodes, houseKey)
	}
	// A Parent without an Id, and one whose Id is another Attr.
	for _, has := range []string{``, ` id="x1"`, ` ID="x1"`, ` ns:p="u" p:Id="x1"`, ` ns:Id="x1"`, ` x="x1"`, ` Ref="x1"`} {
		for _, ref := range []string{"", "x1", "-1"} {
			nodes := forged(t, `<a`+has+`>t<s:Seal ns:s="seal" Ref="" Sum="" Sign=""/></a>`, 2, ref, houseKey)
			wantNotSealed(t, nodes, 2)
			wantSealsOf(t, nodes, 0, 2)
			wantSealing(t, nodes, 0, houseKey, asItIs(nodes))
			wantSealing(t, letterTree(t, `<a`+has+`>t</a>`), 0, houseKey, asItIs(letterTree(t, `<a`+has+`>t</a>`)))
		}
		around := forged(t, `<o Id="x1"><a`+strings.ReplaceAll(has, "x1", "x2")+`><s:Seal ns:s="seal" Ref="" Sum="" Sign=""/></a></o>`, 2, "x1", houseKey)
		wantNotSealed(t, around, 2)
	}
	// Moved to an element with another Id, or wrapped, it seals nothing.
	sealed, at := sealedTree(t, letterTree(t, `<a Id="x1"><b>t</b></a>`), 0, houseKey)
	wrapped, _ := impl.Wrapped(sealed, at, "w")
	wantNotSealed(t, wrapped, at+1)
	wantSealsOf(t, wrapped, 0)
	wantSealsOf(t, wrapped, at, at+1)
	other := append(letterTree(t, `<a Id="x2"><b>t</b></a>`), sealed[at])
	wantNotSealed(t, other, at)
	same := append(letterTree(t, `<a Id="x1"><b>t</b></a>`), sealed[at])
	wantSealed(t, same, at, houseKey)
}

// Promise 13: a letter of which one sign is another one is not sealed any more, unless it is written the same.
func TestOneSignChangedIsNotSealed(t *testing.T) {
	read, kept := 0, 0
	for _, c := range []struct {
		letter string
		at     int64
	}{
		{`<a Id="x1"><b>t</b></a>`, 0}, {`<p:a ns:p="u" Id="x1" y="&lt;">v<b ns="d" p:z=""/>&amp;w</p:a>`, 0}, {`<o ns="u">o<a Id="x1" y="1">v</a></o>`, 2},
	} {
		nodes, seal := sealedTree(t, letterTree(t, c.letter), c.at, houseKey)
		part, shown := expectedCanon(nodes, c.at, seal), impl.ShowTree(nodes)
		for i := range len(shown) {
			for _, sign := range []string{"", "a", "x", "z", "0", "1", "2", "9", "A", "S", " ", ":", "<", ">", "/", "=", "\"", "&", "\n"} {
				other, ok := impl.ReadTree(shown[:i] + sign + shown[i+1:])
				if !ok || sameTree(other, nodes) {
					continue
				}
				read++
				for at := range int64(len(other)) {
					got := impl.SealedBy(other, at, houseKey)
					if got != expectedSealedBy(other, at, houseKey) {
						t.Fatalf("SealedBy(%+v, %d) = %v", other, at, got)
					}
					if !got {
						continue
					}
					kept++
					if again := expectedCanon(other, other[at].Parent, at); again != part {
						t.Fatalf("%q is sealed as %q is", again, part)
					}
				}
			}
		}
	}
	if read < 1500 || kept < 10 || kept > read/10 {
		t.Errorf("%d were read, %d of them sealed still", read, kept)
	}
}

// Promise 13, word by word: each sign of Ref, Sum and Sign.
func TestOneSignOfASealChanged(t *testing.T) {
	nodes, at := sealedTree(t, letterTree(t, `<a Id="x1y2"><b>t</b></a>`), 0, houseKey)
	for i := 1; i <= 3; i++ {
		word := nodes[at].Attrs[i].Value
		for place := range len(word) {
			for b := range 256 {
				other := slices.Clone(nodes)
				other[at].Attrs = slices.Clone(nodes[at].Attrs)
				other[at].Attrs[i].Value = word[:place] + oneByte(b) + word[place+1:]
				for _, k := range []impl.Key{houseKey, publicKey(houseKey)} {
					if got := impl.SealedBy(other, at, k); got != (byte(b) == word[place]) {
						t.Errorf("%+v: SealedBy is %v", other[at], got)
					}
				}
			}
		}
	}
	// A Sum that is right of another part, signed rightly; a Sign that is right of another Ref.
	for _, k := range []impl.Key{houseKey, thirdKey} {
		sum := expectedDigits(expectedHash("another part"))
		other := append(slices.Clone(nodes[:at]), sealNode(0, "x1y2", sum, expectedSign(k, "x1y2", sum)))
		wantNotSealed(t, other, at)
		sum = nodes[at].Attrs[2].Value
		other[at] = sealNode(0, "x1y2", sum, expectedSign(k, "x1y3", sum))
		wantNotSealed(t, other, at)
		other[at] = sealNode(0, "x1y2", sum, expectedSign(k, "x1y2", sum))
		wantSealed(t, other, at, k)
	}
	// What is signed is Spoken, not the Sum, the Canon or the Hash itself.
	for _, spoken := range []string{nodes[at].Attrs[2].Value, expectedCanon(nodes, 0, at), "x1y2", "Ref=x1y2", ""} {
		sum := nodes[at].Attrs[2].Value
		other := append(slices.Clone(nodes[:at]), sealNode(0, "x1y2", sum, expectedDigits(expectedLocked(houseKey, expectedHash(spoken)))))
		wantNotSealed(t, other, at)
	}
}

// Promise 13: unlike parts with one Hash have one seal.
func TestPartsThatClashAreSealedAlike(t *testing.T) {
	family := []string{"isydohq", "jjngxnf"}
	for _, form := range []string{`<a Id="x1">%s</a>`, `<a Id="x1"><b x="%s"/>t</a>`, `<o><a Id="x1" x="%s"><b>t</b></a></o>`} {
		one, other := letterTree(t, fmt.Sprintf(form, family[0])), letterTree(t, fmt.Sprintf(form, family[1]))
		at := impl.FindId(one, "x1")
		sealed, seal := sealedTree(t, one, at, houseKey)
		again, _ := sealedTree(t, other, at, houseKey)
		if !sameNode(sealed[seal], again[seal]) || !impl.Clash([]string{impl.Canon(sealed, at, seal), impl.Canon(again, at, seal)}) {
			t.Errorf("%q and %q do not clash", impl.Canon(sealed, at, seal), impl.Canon(again, at, seal))
		}
		moved, ok := impl.Grafted(other, at, []impl.Node{sealNode(-1, sealed[seal].Attrs[1].Value, sealed[seal].Attrs[2].Value, sealed[seal].Attrs[3].Value)})
		if !ok {
			t.Fatalf("%+v has no room", other)
		}
		wantSealed(t, moved, seal, houseKey)
	}
}

// Promise 13: the part may stand otherwise as long as it is written the same.
func TestWhatIsWrittenTheSameIsSealedStill(t *testing.T) {
	for _, c := range [][]string{
		{`<a Id="x1" y="1" z="2">t%s</a>`, `<a z="2" y="1" Id="x1">t%s</a>`, `<a y="1" Id="x1" z="2">t%s</a>`, `<a Id="x1" y="1" z="2">t<!-- r -->%s</a>`, `<a Id="x1" y="1" z="2"><!-- r -->%st</a>`},
		{`<p:a ns:p="u" Id="x1"><p:b p:x="1"/>%s</p:a>`, `<p:a ns:p="u" Id="x1"><p:b ns:p="u" p:x="1"/>%s</p:a>`, `<p:a Id="x1" ns:q="w" ns:p="u" ns="d"><p:b p:x="1" ns:r="u"></p:b>%s</p:a>`, `<p:a ns:p="u" Id="x1">%s<p:b p:x="1"/></p:a>`},
		{`<o ns:p="u"><p:a Id="x1"><b/>%s</p:a></o>`, `<o><p:a ns:p="u" Id="x1"><b/>%s</p:a></o>`, `<o ns:p="w"><p:a ns:p="u" Id="x1">%s<b/></p:a></o>`, `<w ns:p="u" x="1"><p:a Id="x1"><b/>%s</p:a>more<more/></w>`, `<o ns="d" ns:p="u"><p:a ns="" Id="x1"><b/>%s</p:a></o>`},
		{`<a Id="x1"><b ns="d"><c/></b>%s</a>`, `<a Id="x1" ns=""><b ns="d"><c ns="d"/></b>%s</a>`, `<a Id="x1" ns:q="d"><b ns="d"><c/></b>%s</a>`},
		{`<a Id="x1" y="&quot;&gt;">&gt;"%s</a>`, `<a Id="x1" y="&quot;>">&gt;&quot;%s</a>`},
	} {
		first := letterTree(t, fmt.Sprintf(c[0], ""))
		at := impl.FindId(first, "x1")
		sealed, seal := sealedTree(t, first, at, houseKey)
		put := strings.ReplaceAll(impl.ShowToken(opened("s:Seal", "ns:s", "seal", "Ref", "x1", "Sum", sealed[seal].Attrs[2].Value, "Sign", sealed[seal].Attrs[3].Value)), ">", "/>")
		for _, form := range c {
			nodes := letterTree(t, fmt.Sprintf(form, put))
			who := impl.FindId(nodes, "x1")
			list := impl.SealsOf(nodes, who)
			if len(list) != 1 {
				t.Fatalf("the seals of %q are %v", form, list)
			}
			wantSealed(t, nodes, list[0], houseKey)
		}
	}
	// These mean another thing.
	sealed, seal := sealedTree(t, letterTree(t, `<o ns:p="u"><p:a Id="x1"><b/></p:a></o>`), 1, houseKey)
	for _, other := range [][]impl.Attr{attrs("ns:p", "w"), attrs("ns:p", "u", "ns", "d")} {
		nodes := slices.Clone(sealed)
		nodes[0].Attrs = other
		wantNotSealed(t, nodes, seal)
	}
}

func TestSealingWhereThereIsNoRoom(t *testing.T) {
	for count := 47; count <= 51; count++ {
		nodes := wide(count)
		nodes[0].Attrs, nodes[count-1].Attrs = attrs("Id", "x1"), attrs("Id", "x2")
		for _, at := range []int64{0, int64(count) - 1} {
			switch {
			case count < 50:
				sealed, seal := sealedTree(t, nodes, at, houseKey)
				wantSealed(t, sealed, seal, houseKey)
			case count == 50:
				wantSealing(t, nodes, at, houseKey, asItIs(nodes))
			default:
				wantSealing(t, nodes, at, houseKey, answer{})
			}
		}
	}
	// Room for one more is not room for two.
	nodes := wide(49)
	nodes[0].Attrs, nodes[1].Attrs = attrs("Id", "x1"), attrs("Id", "x2")
	full, seal := sealedTree(t, nodes, 1, houseKey)
	wantSealing(t, full, 0, houseKey, asItIs(full))
	wantSealed(t, full, seal, houseKey)
	// Another one's seal, right where this one's would have come to stand, is not taken for it.
	nodes = slices.Insert(wide(49), 2, sealNode(0, "x1", "", ""))
	nodes[0].Attrs, nodes[1].Attrs = attrs("Id", "x1"), attrs("Id", "x2")
	full = signedSeal(nodes, 2, "x1", houseKey)
	wantSealed(t, full, 2, houseKey)
	wantSealing(t, full, 1, houseKey, asItIs(full))
	for depth := 1; depth <= 10; depth++ {
		nodes := chain(depth)
		at := int64(depth) - 1
		nodes[at].Attrs = attrs("Id", "x1")
		switch {
		case depth < 9:
			sealed, seal := sealedTree(t, nodes, at, houseKey)
			wantSealed(t, sealed, seal, houseKey)
		case depth == 9:
			wantSealing(t, nodes, at, houseKey, asItIs(nodes))
			nodes[8].Attrs, nodes[7].Attrs = nil, attrs("Id", "x1")
			sealed, seal := sealedTree(t, nodes, 7, houseKey)
			wantSealed(t, sealed, seal, houseKey)
		default:
			wantSealing(t, nodes, at, houseKey, answer{})
		}
	}
	// An element with most Attrs, and the greatest of all.
	most := []impl.Node{element(-1, "a", "Id", strings.Repeat("z", 12), "b", strings.Repeat("&", 60), "c", strings.Repeat("\"", 60), "d", "", "e", "", "f", "")}
	sealed, at := sealedTree(t, append(most, textNode(0, strings.Repeat("<", 60))), 0, mostKey)
	wantSealed(t, sealed, at, mostKey)
	// Longer than a letter may be.
	great := lengthyTree(6000)
	great[0].Attrs = attrs("Id", "x1")
	sealed, at = sealedTree(t, great, 0, houseKey)
	wantSealed(t, sealed, at, houseKey)
}

func TestSealingWhatHasASeal(t *testing.T) {
	nodes := letterTree(t, `<a Id="x1"><b Id="x2">t</b></a>`)
	sealed, _ := sealedTree(t, nodes, 0, houseKey)
	for _, k := range append(sealKeys(), wrongKeys()...) {
		wantSealing(t, sealed, 0, k, asItIs(sealed))
	}
	for _, put := range []string{someSeal, `<p:Seal ns:p="seal" Ref="x2" Sum="9999999999" Sign="9999999999"/>`, `<Seal ns="seal" Sign="0000000000" Sum="0000000000" Ref=""/>`, someSeal + someSeal} {
		for _, form := range []string{`<a Id="x1">%s</a>`, `<a Id="x1">x%s<b/></a>`, `<a Id="x1"><b/>%sx</a>`} {
			has := letterTree(t, fmt.Sprintf(form, put))
			wantSealing(t, has, 0, houseKey, asItIs(has))
		}
		// In one further in or further out it is another's.
		inner := letterTree(t, fmt.Sprintf(`<a Id="x1"><b Id="x2">%s</b></a>`, put))
		one, at := sealedTree(t, inner, 0, houseKey)
		wantSealed(t, one, at, houseKey)
		wantSealing(t, inner, 1, houseKey, asItIs(inner))
		outer := letterTree(t, fmt.Sprintf(`<a Id="x1"><b Id="x2"/>%s</a>`, put))
		one, at = sealedTree(t, outer, 1, houseKey)
		wantSealed(t, one, at, houseKey)
		wantSealing(t, outer, 0, houseKey, asItIs(outer))
	}
	// What is no seal is passed over.
	for _, put := range []string{`<Seal/>`, `<s:Seal ns:s="seal"/>`, `<s:Seal ns:s="seal" Ref="x1" Sum="1" Sign="2"/>`, `<s:Seal ns:s="seal" Ref="x1" Sum="0000000001" Sign="0000000002">x</s:Seal>`, `<s:Seal ns:s="other" Ref="x1" Sum="0000000001" Sign="0000000002"/>`, `<s:Seal ns:s="seal" Ref="x1" Sum="0000000001" Sign="0000000002" Id="x2"/>`} {
		one, at := sealedTree(t, letterTree(t, fmt.Sprintf(`<a Id="x1">%s</a>`, put)), 0, houseKey)
		wantSealed(t, one, at, houseKey)
		wantSealsOf(t, one, 0, at)
	}
	// Taken off, it can be put on again, and is the same.
	bare, _ := impl.Pruned(sealed, 3)
	wantSealing(t, bare, 0, houseKey, answer{sealed, true})
}

// Of the keys only those that lock, and open what they locked, can seal; of the others all that open can look.
func TestSealsOfKeys(t *testing.T) {
	nodes := letterTree(t, `<a Id="x1"><b>t</b></a>`)
	sealed, at := sealedTree(t, nodes, 0, houseKey)
	for _, k := range wrongKeys() {
		wantSealing(t, nodes, 0, k, asItIs(nodes))
		wantSealedBy(t, sealed, at, k, false)
	}
	for _, k := range sealKeys() {
		wantSealing(t, nodes, 0, publicKey(k), asItIs(nodes))
		wantSealing(t, nodes, 0, impl.Public(k), asItIs(nodes))
		own, seal := sealedTree(t, nodes, 0, k)
		wantSealed(t, own, seal, k)
	}
	for _, c := range keyCases() {
		k := madeKey(t, c[0], c[1], c[2])
		own, seal := sealedTree(t, nodes, 0, k)
		wantSealedBy(t, own, seal, k, true)
		wantSealedBy(t, own, seal, impl.Public(k), true)
		wantSealedBy(t, sealed, at, k, c[3] == houseKey.N && c[2] == houseKey.E)
		wantSealedBy(t, sealed, at, impl.Public(k), c[3] == houseKey.N && c[2] == houseKey.E)
	}
	// Its two powers do not belong together: what it locks it does not open, though each is in range.
	for _, c := range [][3]int64{{2621429689, 17, 925173234}, {2621429689, 17, 925173232}, {2621429689, 17, 3}, {2621429689, 3, 925173233}, {2621429689, 65537, 925173233}, {2621429689, 17, 2621429688}, {2998608073, 17, 925173233}, {minModulus, 3, 3}, {maxModulus, 3, 3}, {maxModulus, maxModulus - 1, maxModulus - 1}} {
		wantSealing(t, nodes, 0, keyFrom(c), asItIs(nodes))
	}
	// Another locker that belongs to it does as well.
	twin := impl.Key{N: 2621429689, E: 17, D: 51398513}
	wantSealing(t, nodes, 0, twin, answer{sealed, true})
	wantSealedBy(t, sealed, at, twin, true)
	// To look, the locker need only be in range, or not there.
	wantSealedBy(t, sealed, at, impl.Key{N: 2621429689, E: 17, D: 3}, true)
	wantSealedBy(t, sealed, at, impl.Key{N: 2621429689, E: 17, D: 2621429688}, true)
	for i, k := range edgeKeys() {
		if i%7 != 0 {
			continue
		}
		if got, want := impl.SealedBy(sealed, at, k), expectedSealedBy(sealed, at, k); got != want {
			t.Errorf("SealedBy %v is %v", k, got)
		}
		got, want := told(impl.Sealing(nodes, 0, k)), told(expectedSealing(nodes, 0, k))
		wantTold(t, "Sealing", nodes, 0, got, want)
	}
}

func TestSealsWhereThereIsNoNode(t *testing.T) {
	nodes := letterTree(t, `<a Id="x1">t<b Id="x2">u</b></a>`)
	sealed, _ := sealedTree(t, nodes, 0, houseKey)
	both, _ := sealedTree(t, sealed, 2, houseKey)
	for _, given := range [][]impl.Node{nodes, sealed, both} {
		size := int64(len(given))
		for _, at := range append(farNumbers(), -1, -2, -3, -4, -5, size, size+1, size+2, 49, 50, 51, 1, 3, 256, 1<<32+2, math.MinInt64, math.MaxInt64) {
			wantSealsOf(t, given, at)
			for _, k := range []impl.Key{houseKey, publicKey(houseKey), {}} {
				wantSealedBy(t, given, at, k, false)
				wantSealing(t, given, at, k, asItIs(given))
			}
		}
		checkSeals(t, given, houseKey)
	}
	// An element that is no seal seals nothing, whoever is asked.
	for _, at := range []int64{0, 2} {
		wantNotSealed(t, both, at)
	}
}

func TestSealsOfNoTree(t *testing.T) {
	for _, given := range noTrees() {
		nodes := slices.Clone(given)
		for i := range min(len(nodes), 60) {
			if nodes[i].Name != "" {
				nodes[i].Attrs = append(slices.Clip(nodes[i].Attrs), attrs("Id", idNumber(i))...)
			}
		}
		if len(nodes) <= 60 {
			nodes = append(nodes, sealNode(0, "0", "0000000001", "0000000002"))
		}
		for _, list := range [][]impl.Node{given, nodes} {
			for _, at := range append([]int64{-1, 0, 1, 2, 3, 10, 11, 50, 51, int64(len(list)) - 1}, math.MinInt64, math.MaxInt64) {
				if expectedTreeOk(list) {
					continue
				}
				wantSealsOf(t, list, at)
				wantSealedBy(t, list, at, houseKey, false)
				wantSealing(t, list, at, houseKey, answer{})
				wantSealing(t, list, at, publicKey(houseKey), answer{})
				wantSealing(t, list, at, impl.Key{}, answer{})
			}
		}
	}
	// A tree that was sealed and is none any more.
	sealed, at := sealedTree(t, letterTree(t, `<a Id="x1"><b>t</b></a>`), 0, houseKey)
	for i := range sealed {
		for _, wrong := range []func(*impl.Node){func(n *impl.Node) { n.Parent = 7 }, func(n *impl.Node) { n.Parent = -2 }, func(n *impl.Node) { n.Text = "\xff" }, func(n *impl.Node) { n.Name = "1" }, func(n *impl.Node) { n.Name, n.Text = "a", "x" }} {
			nodes := slices.Clone(sealed)
			wrong(&nodes[i])
			wantNotSealed(t, nodes, at)
			wantSealsOf(t, nodes, 0)
			wantSealing(t, nodes, 0, houseKey, answer{})
		}
	}
}

func TestSealsOfWrongNames(t *testing.T) {
	for _, letter := range wronglyNamed() {
		nodes := letterTree(t, letter)
		for _, at := range elementsOf(nodes) {
			if len(nodes[at].Attrs) == 6 {
				continue
			}
			given := withId(nodes, at, 0, "x1")
			wantSealing(t, given, at, houseKey, asItIs(given))
			has, ok := impl.Grafted(given, at, []impl.Node{sealNode(-1, "x1", "0000000001", "0000000002")})
			if !ok {
				t.Fatalf("%+v has no room", given)
			}
			seal := impl.EndOf(given, at)
			// There is no Canon: a Sum of the empty one, rightly signed, is none either.
			for _, one := range [][]impl.Node{has, signedSeal(has, seal, "x1", houseKey)} {
				wantNotSealed(t, one, seal)
				wantSealsOf(t, one, at)
				wantSealing(t, one, at, houseKey, asItIs(one))
			}
		}
	}
	// What was sealed is not any more, be the wrong name aside or further out.
	inner, _ := sealedTree(t, letterTree(t, `<a><b Id="x1"/><c/></a>`), 1, houseKey)
	for _, at := range []int64{0, 3} {
		for _, wrong := range []impl.Attr{{Name: "ns", Value: "U"}, {Name: "ns:p", Value: ""}, {Name: "q:x", Value: "1"}} {
			nodes := slices.Clone(inner)
			nodes[at].Attrs = []impl.Attr{wrong}
			for _, one := range [][]impl.Node{nodes, signedSeal(nodes, 2, "x1", houseKey)} {
				wantNotSealed(t, one, 2)
				wantSealsOf(t, one, 1)
			}
		}
	}
	wantSealed(t, inner, 2, houseKey)
}

func TestSealsOfWrongIds(t *testing.T) {
	for _, letter := range []string{
		`<a Id="x1"><b Id="x1"/></a>`, `<a Id="x1"><b Id="X"/></a>`, `<a Id="x1"><b Id=""/></a>`, `<a Id="x1"><b><c Id="x-1"/></b></a>`, `<a Id="x1"><b Id="x2"/><c Id="x2"/></a>`, `<a Id=""><b Id="x2"/></a>`, `<a Id="X1"/>`, `<a Id="aaaaaaaaaaaaa"/>`, `<a Id=" x1"><b/></a>`,
	} {
		nodes := letterTree(t, letter)
		wantIdsOk(t, nodes, false)
		for _, at := range elementsOf(nodes) {
			wantSealing(t, nodes, at, houseKey, asItIs(nodes))
		}
		id, _ := impl.ValueIn(nodes[0].Attrs, "Id")
		has := append(nodes, sealNode(0, "", "", ""))
		at := int64(len(nodes))
		has = signedSeal(has, at, id, houseKey)
		// It is a seal, but it seals nobody.
		wantSealsOf(t, has, 0, at)
		wantNotSealed(t, has, at)
		wantSealing(t, has, 0, houseKey, asItIs(has))
	}
	// What was sealed is not any more where another one comes to have its Id, or none that is right.
	sealed, at := sealedTree(t, letterTree(t, `<a><b Id="x1">t</b><c/></a>`), 1, houseKey)
	for _, id := range []string{"x1", "X", "", "x2"} {
		nodes := slices.Clone(sealed)
		nodes[4].Attrs = attrs("Id", id)
		if id == "x2" {
			wantSealed(t, nodes, at, houseKey)
		} else {
			wantNotSealed(t, nodes, at)
		}
		wantSealsOf(t, nodes, 1, at)
	}
}

// sealableTree is a strewn one with Ids here and there, all of them right, and room for one more.
func sealableTree(seed int) ([]impl.Node, []int64) {
	nodes := idTree(2 * seed)
	var able []int64
	for _, at := range elementsOf(nodes) {
		if _, has := expectedOwnId(nodes, at); has && len(nodes) < 50 && expectedDepth(nodes, at) < 9 {
			able = append(able, at)
		}
	}
	return nodes, able
}

// strewnSealed has sealed one of those that can be, and tells where the seal is; nothing where none can be.
func strewnSealed(t *testing.T, next func(int) int, seed int, k impl.Key) ([]impl.Node, int64) {
	t.Helper()
	nodes, able := sealableTree(seed)
	if len(able) == 0 {
		return nil, -1
	}
	return sealedTree(t, nodes, able[next(len(able))], k)
}

// Promise 13: what is sealed is SealedBy its key.
func TestWhatIsSealedIsSealedByItsKey(t *testing.T) {
	sealedOnes, refused := 0, 0
	for seed := range 120 {
		nodes, able := sealableTree(seed)
		k := sealKeys()[seed%4]
		for at := range int64(len(nodes)) {
			got, ok := impl.Sealing(nodes, at, k)
			if ok != slices.Contains(able, at) {
				t.Fatalf("Sealing(%+v, %d) tells %v", nodes, at, ok)
			}
			if !ok {
				refused++
				wantTold(t, "Sealing", nodes, at, answer{got, ok}, asItIs(nodes))
				continue
			}
			sealedOnes++
			seal := impl.EndOf(nodes, at)
			wantTold(t, "Sealing", nodes, at, answer{got, ok}, told(expectedSealing(nodes, at, k)))
			if !impl.SealedBy(got, seal, k) || !impl.SealedBy(got, seal, impl.Public(k)) || impl.SealedBy(got, seal, sealKeys()[(seed+1)%4]) {
				t.Fatalf("of %+v, %d it is not told who sealed it", got, seal)
			}
			if list := impl.SealsOf(got, at); !slices.Equal(list, []int64{seal}) {
				t.Fatalf("SealsOf(%+v, %d) = %v", got, at, list)
			}
			if t.Failed() {
				t.FailNow()
			}
		}
	}
	if sealedOnes < 500 || refused < 1000 {
		t.Errorf("%d were sealed, %d refused", sealedOnes, refused)
	}
}

// changedNodes is a tree of which one thing is another: a text, a Value, a Name, or a Node more or less.
func changedNodes(next func(int) int, nodes []impl.Node) []impl.Node {
	at := int64(next(len(nodes)))
	switch next(8) {
	case 0:
		less, _ := impl.Pruned(nodes, at)
		return less
	case 1:
		more, _ := impl.Grafted(nodes, at, []impl.Node{element(-1, "more")})
		return more
	case 2:
		wrapped, _ := impl.Wrapped(nodes, at, "w")
		return wrapped
	}
	out := slices.Clone(nodes)
	n := &out[at]
	n.Attrs = slices.Clone(n.Attrs)
	switch {
	case n.Name == "":
		n.Text = []string{"other", n.Text[1:] + "x", "x" + n.Text[1:]}[next(3)]
	case len(n.Attrs) > 0 && next(3) > 0:
		n.Attrs[next(len(n.Attrs))].Value = []string{"other", "u", "w", "x9", "0123456789"}[next(5)]
	default:
		n.Name = []string{"other", "a", "p:a", "Seal"}[next(4)]
	}
	return out
}

// Promise 13: of parts that change, none is SealedBy the key, or they clash.
func TestPartsThatChangeAreNotSealed(t *testing.T) {
	gone, kept, elsewhere := 0, 0, 0
	for seed := range 400 {
		next := dice(seed)
		sealed, seal := strewnSealed(t, next, seed, houseKey)
		if len(sealed) == 0 {
			continue
		}
		at := sealed[seal].Parent
		parts := []string{expectedCanon(sealed, at, seal), expectedSpoken(sealed[seal].Attrs[1].Value, sealed[seal].Attrs[2].Value)}
		for range 12 {
			other := changedNodes(next, sealed)
			still := false
			for there := range int64(len(other)) {
				got := impl.SealedBy(other, there, houseKey)
				// What is not named so is no seal: of that the oracle need not be asked.
				if want := strings.HasSuffix(other[there].Name, "Seal") && expectedSealedBy(other, there, houseKey); got != want {
					t.Fatalf("SealedBy(%+v, %d) = %v", other, there, got)
				}
				if !got {
					continue
				}
				still = true
				words, _ := expectedSeal(other, there)
				if part := expectedCanon(other, other[there].Parent, there); part != parts[0] && !expectedClash([]string{part, parts[0]}) {
					t.Fatalf("%q is sealed by the seal of %q", part, parts[0])
				}
				if spoken := expectedSpoken(words["Ref"], words["Sum"]); spoken != parts[1] && !expectedClash([]string{spoken, parts[1]}) {
					t.Fatalf("%q is signed by the Sign of %q", spoken, parts[1])
				}
			}
			switch {
			case !still:
				gone++
			case sameTree(other, sealed):
				kept++
			default:
				elsewhere++
			}
		}
	}
	if gone < 500 || kept < 50 || elsewhere < 500 {
		t.Errorf("%d are not sealed any more, %d are as they were, %d are sealed still", gone, kept, elsewhere)
	}
}

// Promise 13: in whatever order Attrs stand, wherever meanings are declared, whatever stands around.
func TestWhatMeansTheSameIsSealedStill(t *testing.T) {
	same, aside := 0, 0
	for seed := range 150 {
		next := dice(seed)
		k := sealKeys()[seed%4]
		sealed, seal := strewnSealed(t, next, seed, k)
		if len(sealed) == 0 {
			continue
		}
		at := sealed[seal].Parent
		others := [][]impl.Node{shuffled(next, sealed)}
		if other, ok := redeclared(next, sealed); ok {
			others = append(others, other, shuffled(next, other))
		}
		for _, other := range others {
			same++
			if !impl.SealedBy(other, seal, publicKey(k)) || impl.SealedBy(other, seal, sealKeys()[(seed+1)%4]) || !slices.Contains(impl.SealsOf(other, at), seal) {
				t.Fatalf("%+v is written as %+v is, and not sealed", other, sealed)
			}
		}
		// Wrapped as a whole it is further on, and sealed; what stands in no part may go.
		if wrapped, ok := impl.Wrapped(sealed, at, "w"); ok && impl.NamesOk(wrapped) {
			aside++
			if !impl.SealedBy(wrapped, seal+1, k) {
				t.Fatalf("%+v is only wrapped", wrapped)
			}
		}
		for gone := seal + 1; gone < int64(len(sealed)); gone++ {
			if less, ok := impl.Pruned(sealed, gone); ok {
				aside++
				if !impl.SealedBy(less, seal, k) {
					t.Fatalf("%+v is the same as far as %d", less, seal)
				}
			}
		}
	}
	if same < 150 || aside < 300 {
		t.Errorf("%d were written the same, %d changed elsewhere", same, aside)
	}
}

// Each short tree with seals and what looks like them, against the words of the chapter.
func TestSealsOfShortTrees(t *testing.T) {
	kinds := []func(parent int64) impl.Node{
		func(p int64) impl.Node { return textNode(p, "x") },
		func(p int64) impl.Node { return element(p, "b", "Id", "x1") },
		func(p int64) impl.Node { return element(p, "b", "Id", "x2") },
		func(p int64) impl.Node { return element(p, "c", "ns", "seal") },
		func(p int64) impl.Node { return sealNode(p, "x1", "", "") },
		func(p int64) impl.Node { return sealNode(p, "x2", "", "") },
		func(p int64) impl.Node { return element(p, "Seal", "Ref", "x1", "Sum", "", "Sign", "") },
		func(p int64) impl.Node { return sealNode(p, "", "", "") },
	}
	sealedOnes, trees := 0, 0
	var few []impl.Node
	for parent := range int64(3) {
		for _, kind := range kinds {
			few = append(few, kind(parent))
		}
	}
	for _, first := range []impl.Node{element(-1, "a", "Id", "x1"), element(-1, "a", "ns", "seal", "Id", "x3"), element(-1, "a")} {
		eachList(few, 3, func(rest []impl.Node) {
			nodes := append([]impl.Node{first}, rest...)
			if !expectedTreeOk(nodes) {
				return
			}
			trees++
			// The last ones first: those further in are in the part of those further out.
			for at := len(nodes) - 1; at > 0; at-- {
				if ref, is := impl.ValueIn(nodes[at].Attrs, "Ref"); is {
					nodes = signedSeal(nodes, int64(at), ref, houseKey)
				}
			}
			for at := int64(-1); at <= int64(len(nodes)); at++ {
				if impl.SealedBy(nodes, at, houseKey) {
					sealedOnes++
				}
			}
			checkSeals(t, nodes, houseKey)
		})
	}
	if trees < 5000 || sealedOnes < 200 {
		t.Errorf("%d trees, in them %d that are sealed", trees, sealedOnes)
	}
}

// Promise 21 for chapter 13.
func TestSealAnswersAreNewMemoryAndArgumentsStay(t *testing.T) {
	sealed, _ := sealedTree(t, letterTree(t, `<a Id="x1" ns="u"><b Id="x2">x1</b></a>`), 0, houseKey)
	trees := append(memoryTrees(), sealed, letterTree(t, `<a Id="x1" ns="u"><b Id="x2"/>x1<b/></a>`), letterTree(t, `<a Id="x"><b Id="x"/></a>`), letterTree(t, `<a Id="x1"><p:b/></a>`), wide(50))
	for seed := range 16 {
		trees = append(trees, idTree(seed))
	}
	made, refused, listed := 0, 0, 0
	for _, given := range trees {
		tree := layTree(given)
		for at := int64(-1); at <= int64(len(given)); at++ {
			for _, k := range []impl.Key{houseKey, publicKey(houseKey), {}} {
				impl.SealedBy(tree.nodes, at, k)
				got, ok := impl.Sealing(tree.nodes, at, k)
				if !ok && k != houseKey && at != 0 {
					continue
				}
				wantOwn(t, "Sealing", got, tree)
				if ok {
					made++
				} else {
					refused++
				}
			}
			list, again := impl.SealsOf(tree.nodes, at), impl.SealsOf(tree.nodes, at)
			if sharesRoom(list, again) {
				t.Errorf("SealsOf tells one list twice: %v", list)
			}
			if len(list) > 0 {
				listed++
			}
		}
		tree.stays(t)
	}
	if made < 50 || refused < 300 || listed < 1 {
		t.Errorf("%d were sealed, %d refused, of %d seals were told", made, refused, listed)
	}
	for _, word := range []string{"", "x1", "0528779874", allPlain()} {
		ref, buffer := laid(word)
		sum, other := laid(word)
		spoken, again := impl.Spoken(ref, sum), impl.Spoken(ref, sum)
		if sharesMemory(spoken, ref) || sharesMemory(spoken, sum) || sharesMemory(spoken, again) {
			t.Errorf("Spoken %q lies in an argument, or in another answer", spoken)
		}
		if string(buffer) != word+"spare room" || string(other) != word+"spare room" {
			t.Errorf("the words %q became %q and %q", word, buffer, other)
		}
	}
}

// Promise 21 for chapter 13: an answer to whatever is given, and the same one each time.
func TestSealFunctionsAnswerEverywhere(t *testing.T) {
	words := []string{"", "x", "y", "z", "X", "\xff", "0000000000", "9999999999", "123456789"}
	trees, made := 0, 0
	for seed := range 12000 {
		next := dice(seed)
		nodes := anyNodes(next)
		if len(nodes) > 0 && next(2) == 0 {
			nodes[0] = element(-1, "a", "Id", "x")
		}
		for at := range nodes {
			switch next(6) {
			case 0:
				nodes[at].Attrs = append(nodes[at].Attrs, attrs("Id", words[next(6)])...)
			case 1:
				nodes[at] = sealNode(nodes[at].Parent, words[next(len(words))], words[next(len(words))], words[next(len(words))])
			}
		}
		keys := []impl.Key{houseKey, sealKeys()[next(4)], wrongKeys()[next(len(wrongKeys()))], {N: farNumber(next), E: farNumber(next), D: farNumber(next)}}
		checkSeals(t, nodes, keys[next(2)], keys[2+next(2)])
		far := farNumber(next)
		wantSealsOf(t, nodes, far)
		wantSealedBy(t, nodes, far, houseKey, false)
		if _, ok := impl.Sealing(nodes, far, houseKey); ok {
			t.Errorf("Sealing(%+v, %d) is not refused", nodes, far)
		}
		if impl.TreeOk(nodes) {
			trees++
		}
		if _, ok := impl.Sealing(nodes, 0, houseKey); ok {
			made++
		}
	}
	if trees < 500 || made < 200 {
		t.Errorf("only %d were trees, %d were sealed", trees, made)
	}
}
