package tests

import (
	"encoding/base64"
	"fmt"
	"slices"
	"strings"
	"testing"

	"loop.example/g00379/impl"
)

func expectedLetterOf(c impl.Claim, id string) ([]impl.Node, bool) {
	if !expectedClaimOk(c) || id != "" && !wholeId.MatchString(id) || id == c.Id {
		return nil, false
	}
	return letterNodes(c, id), true
}

func placeOf(outer bool) int64 {
	if outer {
		return 0
	}
	return 1
}

func expectedMade(k impl.Key, c impl.Claim, id string, outer bool) ([]impl.Node, bool) {
	nodes, ok := expectedLetterOf(c, id)
	if !ok || outer && id == "" {
		return nil, false
	}
	sealed, ok := expectedSealing(nodes, placeOf(outer), k)
	if !ok {
		return nil, false
	}
	return sealed, true
}

func expectedShown(nodes []impl.Node) string {
	shown := ""
	for _, one := range expectedTokensFrom(nodes, 0) {
		shown += expectedShow(one)
	}
	return shown
}

func expectedSent(nodes []impl.Node) string {
	if !expectedTreeOk(nodes) || len(expectedShown(nodes)) > 4000 {
		return ""
	}
	return base64.StdEncoding.EncodeToString([]byte(expectedShown(nodes)))
}

func wantLetter(t *testing.T, c impl.Claim, id string, right bool) {
	t.Helper()
	want, ok := expectedLetterOf(c, id)
	if ok != right {
		t.Errorf("of %+v, %q the oracle says %v", c, id, ok)
	}
	if got, is := impl.Letter(c, id); is != right || !sameTree(got, want) {
		t.Errorf("Letter(%+v, %q) = %+v, %v, not %+v, %v", c, id, got, is, want, right)
	}
}

func wantMade(t *testing.T, k impl.Key, c impl.Claim, id string, outer, right bool) {
	t.Helper()
	want, ok := expectedMade(k, c, id, outer)
	if ok != right {
		t.Errorf("of %v, %+v, %q, %v the oracle says %v", k, c, id, outer, ok)
	}
	if got, is := impl.Made(k, c, id, outer); is != right || !sameTree(got, want) {
		t.Errorf("Made(%v, %+v, %q, %v) = %+v, %v, not %+v, %v", k, c, id, outer, got, is, want, right)
	}
}

// wantLetters holds what is told of a Claim and an id: the Letter, and what is Made of it in both ways.
func wantLetters(t *testing.T, c impl.Claim, id string, right bool) {
	t.Helper()
	wantLetter(t, c, id, right)
	wantMade(t, houseKey, c, id, false, right)
	wantMade(t, houseKey, c, id, true, right && id != "")
}

func wantSent(t *testing.T, nodes []impl.Node, want string) {
	t.Helper()
	if got := expectedSent(nodes); got != want {
		t.Errorf("of %+v the oracle says %q", nodes, got)
	}
	if got := impl.Sent(nodes); got != want {
		t.Errorf("Sent(%+v) = %q, not %q", nodes, got, want)
	}
}

// wantSentAs holds that the letters of a tree are those of this text, and that the tree is read from them.
func wantSentAs(t *testing.T, nodes []impl.Node, text string) {
	t.Helper()
	wantSent(t, nodes, base64.StdEncoding.EncodeToString([]byte(text)))
	read, ok := impl.FromLetters(impl.Sent(nodes))
	if tree, is := impl.ReadTree(read); !ok || !is || read != text || !sameTree(tree, nodes) {
		t.Errorf("what was Sent is read as %q, %+v", read, tree)
	}
}

func mustMake(t *testing.T, k impl.Key, c impl.Claim, id string, outer bool) []impl.Node {
	t.Helper()
	made, ok := impl.Made(k, c, id, outer)
	if !ok {
		t.Fatalf("Made(%v, %+v, %q, %v) is refused", k, c, id, outer)
	}
	return made
}

func TestLetterNodeByNode(t *testing.T) {
	first, named := element(-1, "l:Letter", "ns:l", "claim"), element(-1, "l:Letter", "ns:l", "claim", "Id", "m1")
	plain := []impl.Node{
		element(0, "c:Claim", "ns:c", "claim", "Id", "k1"),
		element(1, "c:Issuer"), textNode(2, "idp"),
		element(1, "c:Subject"), textNode(4, "ann"),
		element(1, "c:Term", "From", "2000-01-01T00:01:40Z", "To", "2000-01-01T00:03:20Z"),
		element(1, "c:For"), textNode(7, "gate"),
	}
	answers := append(slices.Clip(plain), element(1, "c:Answers"), textNode(9, "r1"))
	oneFact := append(slices.Clip(plain), element(1, "c:Fact", "Name", "role"), textNode(9, "a < b"))
	all := append(slices.Clip(answers),
		element(1, "c:Fact", "Name", "role"), textNode(11, "a < b"), element(1, "c:Fact", "Name", "mail"), textNode(13, "ann@x.org"),
		element(1, "c:Fact", "Name", "x.@9"), textNode(15, "&\n\""), element(1, "c:Fact", "Name", "Role"), textNode(17, ">"))
	withAnswers, withFact := plainClaim(), plainClaim()
	withAnswers.Answers = "r1"
	withFact.Facts = attrs("role", "a < b")
	for _, c := range []struct {
		claim impl.Claim
		want  []impl.Node
		rest  string
	}{
		{plainClaim(), plain, ""},
		{withAnswers, answers, `<c:Answers>r1</c:Answers>`},
		{withFact, oneFact, `<c:Fact Name="role">a &lt; b</c:Fact>`},
		{fullClaim(), all, fullRest},
	} {
		for id, head := range map[string]impl.Node{"": first, "m1": named} {
			want, got := append([]impl.Node{head}, c.want...), told(impl.Letter(c.claim, id))
			if !got.ok || !sameTree(got.nodes, want) {
				t.Errorf("Letter(%+v, %q) = %+v, not %+v", c.claim, id, got, want)
			}
			wantLetters(t, c.claim, id, true)
			own := strings.Replace(fmt.Sprintf(` Id="%s"`, id), ` Id=""`, "", 1)
			wantSentAs(t, got.nodes, `<l:Letter ns:l="claim"`+own+`>`+fmt.Sprintf(plainLetter, c.rest)+`</l:Letter>`)
			if impl.IdOf(got.nodes, 0) != id || impl.IdOf(got.nodes, 1) != "k1" || !impl.NamesOk(got.nodes) || !impl.IdsOk(got.nodes) || !impl.Known(got.nodes, 0, "Letter", "claim") {
				t.Errorf("%+v is no Letter", got.nodes)
			}
			wantDecoded(t, got.nodes, 1, c.claim, true)
			if branch, ok := impl.Branch(got.nodes, 1); !ok || !sameTree(branch, impl.ClaimTree(c.claim)) {
				t.Errorf("in %+v is %+v", got.nodes, branch)
			}
		}
	}
}

// Sums and Signs of these were worked out apart from the program.
func TestMadeWorkedOutApart(t *testing.T) {
	oneFact := plainClaim()
	oneFact.Facts = attrs("role", "a < b")
	const oneRest = `<c:Fact Name="role">a &lt; b</c:Fact>`
	for _, c := range []struct {
		key       impl.Key
		claim     impl.Claim
		rest, id  string
		outer     bool
		sum, sign string
	}{
		{houseKey, plainClaim(), "", "", false, "0248290203", "1508282063"},
		{houseKey, plainClaim(), "", "m1", false, "0248290203", "1508282063"},
		{houseKey, plainClaim(), "", "m1", true, "1457260217", "0807638827"},
		{thirdKey, plainClaim(), "", "", false, "0248290203", "2910021760"},
		{houseKey, oneFact, oneRest, "m1", true, "1818667593", "2518067807"},
		{leastKey, oneFact, oneRest, "m1", true, "1818667593", "0214403800"},
		{houseKey, fullClaim(), fullRest, "", false, "1211811627", "1954232124"},
		{houseKey, fullClaim(), fullRest, "0", false, "1211811627", "1954232124"},
		{houseKey, fullClaim(), fullRest, "m1", true, "1196827691", "1100314648"},
		{thirdKey, fullClaim(), fullRest, "a", false, "1211811627", "0492188260"},
		{mostKey, fullClaim(), fullRest, "m1", true, "1196827691", "1853294913"},
		{mostKey, fullClaim(), fullRest, longestId, true, "0101378380", "2286236721"},
	} {
		first, ref := `<l:Letter ns:l="claim" Id="`+c.id+`">`, "k1"
		if c.id == "" {
			first = `<l:Letter ns:l="claim">`
		}
		if c.outer {
			ref = c.id
		}
		seal := fmt.Sprintf(`<s:Seal ns:s="seal" Ref="%s" Sum="%s" Sign="%s"></s:Seal>`, ref, c.sum, c.sign)
		claim := fmt.Sprintf(plainLetter, c.rest)
		text := first + strings.TrimSuffix(claim, `</c:Claim>`) + seal + `</c:Claim></l:Letter>`
		if c.outer {
			text = first + claim + seal + `</l:Letter>`
		}
		made := mustMake(t, c.key, c.claim, c.id, c.outer)
		if got := impl.ShowTree(made); got != text {
			t.Errorf("Made(%v, %+v, %q, %v) is %q, not %q", c.key, c.claim, c.id, c.outer, got, text)
		}
		wantMade(t, c.key, c.claim, c.id, c.outer, true)
		wantSentAs(t, made, text)
		seen := int64(len(made)) - 1
		wantSealed(t, made, seen, c.key)
		wantSealsOf(t, made, placeOf(c.outer), seen)
		wantSealsOf(t, made, 1-placeOf(c.outer))
		if made[seen].Parent != placeOf(c.outer) {
			t.Errorf("in %+v the seal is elsewhere", made)
		}
		if less, _ := impl.Pruned(made, seen); !sameTree(less, letterNodes(c.claim, c.id)) {
			t.Errorf("without its seal %+v is %+v", made, less)
		}
	}
}

func TestIdsOfLetters(t *testing.T) {
	for _, c := range []impl.Claim{plainClaim(), fullClaim()} {
		for length := range 62 {
			for _, sign := range []string{"a", "z", "0", "9"} {
				wantLetters(t, c, strings.Repeat(sign, length), length <= 12)
			}
		}
		for _, id := range []string{"a", "0", longestId, strings.Repeat("k", 12)} {
			wantLetters(t, c, id, true)
		}
		// Those of others in it are no Ids of elements.
		for _, id := range []string{"r1", "idp", "ann", "gate", "claim", "seal", "k11", "k", "k2", "1k", "k01"} {
			wantLetters(t, c, id, true)
		}
		for _, id := range noIds() {
			wantLetters(t, c, id, id == "")
		}
		wantLetters(t, c, "k1", false)
		for b := range 256 {
			for _, id := range []string{oneByte(b), "m" + oneByte(b), oneByte(b) + "m", "aaaaaaaaaaa" + oneByte(b)} {
				wantLetters(t, c, id, wholeId.MatchString(id))
			}
		}
	}
	// That of the Claim, whatever it is.
	for _, own := range []string{"a", "0", longestId, "r1", "m1", strings.Repeat("9", 12)} {
		for _, id := range []string{"", "a", "0", longestId, "r1", "m1", "m10", strings.Repeat("9", 12), strings.Repeat("9", 11)} {
			c := fullClaim()
			c.Id = own
			wantLetters(t, c, id, id != own)
		}
	}
}

// eachWrongClaim tells Claims of which one part is not right, each by itself.
func eachWrongClaim(do func(c impl.Claim)) {
	for _, right := range []impl.Claim{plainClaim(), fullClaim()} {
		change := func(what func(c *impl.Claim)) {
			c := copiedClaim(right)
			what(&c)
			do(c)
		}
		for _, id := range noIds() {
			change(func(c *impl.Claim) { c.Id = id })
			if id != "" {
				change(func(c *impl.Claim) { c.Answers = id })
			}
		}
		for _, word := range noWords() {
			change(func(c *impl.Claim) { c.Issuer = word })
			change(func(c *impl.Claim) { c.Subject = word })
			change(func(c *impl.Claim) { c.For = word })
			change(func(c *impl.Claim) { c.Facts = attrs(word, "v") })
			change(func(c *impl.Claim) { c.Facts = append(numberedFacts(3), attrs(word, "v")...) })
		}
		for _, time := range noTimes() {
			change(func(c *impl.Claim) { c.From = time })
			change(func(c *impl.Claim) { c.To = time })
		}
		for _, value := range []string{"", " ", "\n", " a", "a ", "\na", "a\n", "\t", "\x00", "\xff", "a\tb", "\u00e9", strings.Repeat("a", 31), strings.Repeat("&", 61), strings.Repeat("a", 256+4)} {
			change(func(c *impl.Claim) { c.Facts = attrs("a", value) })
			change(func(c *impl.Claim) { c.Facts = append(numberedFacts(3), attrs("a", value)...) })
		}
		change(func(c *impl.Claim) { c.Facts = numberedFacts(5) })
		change(func(c *impl.Claim) { c.Facts = attrs("a", "v", "a", "v") })
		change(func(c *impl.Claim) { c.Facts = attrs("a", "v", "b", "v", "c", "w", "a", "w") })
		change(func(c *impl.Claim) { c.Facts = make([]impl.Attr, 1) })
	}
	do(impl.Claim{})
}

func TestNothingIsMadeOfClaimsThatAreNotRight(t *testing.T) {
	count := 0
	eachWrongClaim(func(c impl.Claim) {
		count++
		if impl.ClaimOk(c) {
			t.Fatalf("%+v is right", c)
		}
		for _, id := range []string{"", "m1", "k1", "M", c.Id} {
			wantLetters(t, c, id, false)
		}
	})
	if count < 250 {
		t.Errorf("only %d", count)
	}
}

// factValues hold what is escaped, alone and among others.
func factValues() []string {
	return []string{
		"<", ">", "&", "\"", "'", "&amp;", "&lt;", "a < b", "a>b", "a & b", "\"a\"", "<b>", "</c:Fact>", "<!-- r -->", "-->", "a\nb", "a  b", "&<>\"", "x=\"y\"", "]]>", strings.Repeat("&", 30), strings.Repeat("<", 30), strings.Repeat("\"", 30), "!" + strings.Repeat(" ", 28) + "~",
	}
}

func TestLettersOfFacts(t *testing.T) {
	for count := range 5 {
		for at := range max(1, count) {
			for _, value := range factValues() {
				c := fullClaim()
				c.Facts = numberedFacts(count)
				if count > 0 {
					c.Facts[at].Value = value
				}
				wantLetters(t, c, "", true)
				wantLetter(t, c, "m1", true)
				wantLetIn(t, plainGate(), impl.Sent(mustMake(t, houseKey, c, "m1", count%2 == 0)), c)
			}
		}
	}
}

// greatestClaim is as large as it can be, in each part of it.
func greatestClaim() impl.Claim {
	word, value := strings.Repeat("W", 20), strings.Repeat("&", 30)
	c := impl.Claim{Id: longestId, Issuer: word, Subject: word, From: lastTime - 1, To: lastTime, For: word, Answers: strings.Repeat("z", 12)}
	for _, end := range []string{"1", "2", "3", "4"} {
		c.Facts = append(c.Facts, attrs(word[1:]+end, value)...)
	}
	return c
}

func TestTheGreatestLetter(t *testing.T) {
	c, id := greatestClaim(), strings.Repeat("l", 12)
	wantLetters(t, c, "", true)
	wantLetters(t, c, id, true)
	wantLetters(t, c, longestId, false)
	wantLetters(t, c, id+"l", false)
	bare, _ := impl.Letter(c, id)
	if size := len(impl.ClaimTree(c)); size != 18 || len(bare) != 19 {
		t.Errorf("%d Nodes, and %d", size, len(bare))
	}
	for _, outer := range []bool{false, true} {
		made := mustMake(t, mostKey, c, id, outer)
		if len(made) != 20 || made[19].Name != "s:Seal" {
			t.Errorf("Made of %d Nodes: %+v", len(made), made)
		}
		wantSentAs(t, made, expectedShown(made))
		g := gateFor(t, mostKey, c, 0, lastTime-1)
		wantLetIn(t, g, impl.Sent(made), c)
	}
	// The least one has no more than it must.
	least := impl.Claim{Id: "0", Issuer: ".", Subject: "@", From: 0, To: 1, For: "9"}
	wantLetters(t, least, "", true)
	wantLetters(t, least, "1", true)
	wantLetters(t, least, "0", false)
	if made := mustMake(t, leastKey, least, "", false); len(made) != 10 {
		t.Errorf("Made of %d Nodes: %+v", len(made), made)
	}
	wantLetIn(t, gateFor(t, leastKey, least, 0, 0), impl.Sent(mustMake(t, leastKey, least, "1", true)), least)
}

// gateFor is a gate that knows the hand, has asked what is answered, and at which it is now.
func gateFor(t *testing.T, k impl.Key, c impl.Claim, skew, now int64) impl.Gate {
	t.Helper()
	hands := []impl.Hand{hand("another", thirdKey), {Issuer: c.Issuer, Key: impl.Public(k)}}
	g, ok := impl.NewGate(c.For, hands, skew, 2)
	if !ok {
		t.Fatalf("no gate is for %+v", c)
	}
	g = mustTick(t, g, now)
	if c.Answers != "" {
		g = mustAsk(t, g, c.Answers, lastTime)
	}
	return g
}

// madeInAllWays are all that is Made of a Claim, sealed by a key: without an id, with one, with the seal outside.
func madeInAllWays(t *testing.T, k impl.Key, c impl.Claim, id string) [][]impl.Node {
	t.Helper()
	return [][]impl.Node{mustMake(t, k, c, "", false), mustMake(t, k, c, id, false), mustMake(t, k, c, id, true)}
}

// Keys of several sizes: by each of them a letter is made, and let in where it is known.
func TestMadeByKeysOfSeveralSizes(t *testing.T) {
	for i, p := range keyCases() {
		k := madeKey(t, p[0], p[1], p[2])
		for _, c := range []impl.Claim{plainClaim(), fullClaim()} {
			for way, made := range madeInAllWays(t, k, c, idNumber(i)+"m") {
				wantMade(t, k, c, impl.IdOf(made, 0), way == 2, true)
				seal := int64(len(made)) - 1
				wantSealedBy(t, made, seal, k, true)
				wantSealedBy(t, made, seal, impl.Public(k), true)
				wantLetIn(t, gateFor(t, k, c, 0, 150), impl.Sent(made), c)
				// By no other one, and of nobody else.
				other := madeKey(t, keyCases()[(i+2)%14][0], keyCases()[(i+2)%14][1], keyCases()[(i+2)%14][2])
				wantSealedBy(t, made, seal, other, false)
				wantTurnedAway(t, gateFor(t, other, c, 0, 150), impl.Sent(made), impl.GtSeal)
				g := gateFor(t, k, c, 0, 150)
				g.Hands[1].Issuer = "nobody"
				wantTurnedAway(t, g, impl.Sent(made), impl.GtIssuer)
			}
		}
	}
}

// strayKeys are right, but what they lock is not opened to what was locked.
func strayKeys() []impl.Key {
	return []impl.Key{
		{N: houseKey.N, E: 17, D: houseKey.D + 1}, {N: houseKey.N, E: 17, D: houseKey.D - 1}, {N: houseKey.N, E: 17, D: 17}, {N: houseKey.N, E: 3, D: houseKey.D}, {N: houseKey.N, E: 17, D: 599604353}, {N: houseKey.N, E: 65537, D: houseKey.D}, {N: houseKey.N, E: 17, D: houseKey.N - 1}, {N: houseKey.N, E: 3, D: 3},
		{N: thirdKey.N, E: houseKey.E, D: houseKey.D}, {N: houseKey.N + 2, E: 17, D: houseKey.D}, {N: minModulus, E: 3, D: 3}, {N: maxModulus, E: 17, D: 17}, {N: minModulus, E: minModulus - 1, D: minModulus - 2}, {N: maxModulus, E: 3, D: maxModulus - 1},
	}
}

func TestNothingIsMadeByKeysThatDoNotSeal(t *testing.T) {
	keys := wrongKeys()
	for _, k := range sealKeys() {
		keys = append(keys, publicKey(k))
	}
	for _, k := range strayKeys() {
		if !impl.KeyOk(k) || k.D == 0 {
			t.Fatalf("%v is wrong", k)
		}
		keys = append(keys, k)
	}
	for _, k := range keys {
		for _, c := range []impl.Claim{plainClaim(), fullClaim()} {
			for _, id := range []string{"", "m1", "k1", "M", longestId} {
				for _, outer := range []bool{false, true} {
					wantMade(t, k, c, id, outer, false)
				}
			}
		}
	}
	// E and D may change their places: what one locks the other opens.
	turned := impl.Key{N: houseKey.N, E: houseKey.D, D: houseKey.E}
	wantMade(t, turned, fullClaim(), "m1", true, true)
	wantLetIn(t, gateFor(t, turned, fullClaim(), 0, 150), impl.Sent(mustMake(t, turned, fullClaim(), "m1", false)), fullClaim())
}

func TestNoSealOutsideWithoutAnId(t *testing.T) {
	for _, c := range []impl.Claim{plainClaim(), fullClaim(), greatestClaim()} {
		for _, k := range sealKeys() {
			wantMade(t, k, c, "", true, false)
			wantMade(t, k, c, "", false, true)
			wantMade(t, k, c, "m1", true, true)
		}
	}
}

func TestSentTrees(t *testing.T) {
	for _, c := range []struct{ text, letters string }{
		{`<a></a>`, "PGE+PC9hPg=="}, {`<ab></ab>`, "PGFiPjwvYWI+"}, {`<a>x</a>`, "PGE+eDwvYT4="}, {`<a x="&quot;">&lt;</a>`, "PGEgeD0iJnF1b3Q7Ij4mbHQ7PC9hPg=="},
		{`<l:Letter ns:l="claim"></l:Letter>`, "PGw6TGV0dGVyIG5zOmw9ImNsYWltIj48L2w6TGV0dGVyPg=="},
		{`<l:Letter ns:l="claim">` + fmt.Sprintf(plainLetter, "") + `</l:Letter>`, "PGw6TGV0dGVyIG5zOmw9ImNsYWltIj48YzpDbGFpbSBuczpjPSJjbGFpbSIgSWQ9ImsxIj48YzpJc3N1ZXI+aWRwPC9jOklzc3Vlcj48YzpTdWJqZWN0PmFubjwvYzpTdWJqZWN0PjxjOlRlcm0gRnJvbT0iMjAwMC0wMS0wMVQwMDowMTo0MFoiIFRvPSIyMDAwLTAxLTAxVDAwOjAzOjIwWiI+PC9jOlRlcm0+PGM6Rm9yPmdhdGU8L2M6Rm9yPjwvYzpDbGFpbT48L2w6TGV0dGVyPg=="},
	} {
		wantSent(t, letterTree(t, c.text), c.letters)
		wantSentAs(t, letterTree(t, c.text), c.text)
	}
	for _, c := range treeCases() {
		wantSentAs(t, c.nodes, c.letter)
	}
	// Neither what names mean nor Ids are asked.
	for _, text := range []string{`<p:a></p:a>`, `<a Id="X"><b Id="X"></b></a>`, `<ns:a ns:p=""></ns:a>`, `<l:Letter>` + "\n" + `<x y="&quot;&lt;>&amp;"></x>&lt;&gt;&amp;"</l:Letter>`} {
		wantSentAs(t, letterTree(t, text), text)
	}
	for _, nodes := range [][]impl.Node{middleTree(), chain(9), chain(8, textNode(0, "x")), wide(50), wide(1)} {
		wantSentAs(t, nodes, expectedShown(nodes))
	}
	long := 0
	for seed := range 300 {
		nodes := strewnTree(seed)
		if shown := expectedShown(nodes); len(shown) <= 4000 {
			wantSentAs(t, nodes, shown)
		} else {
			long++
			wantSent(t, nodes, "")
		}
	}
	if long < 5 || long > 200 {
		t.Errorf("%d are too long", long)
	}
}

// By one sign more than a letter may have it is not sent.
func TestSentOfMostSigns(t *testing.T) {
	for signs := 3990; signs <= 4010; signs++ {
		nodes := lengthyTree(signs)
		if shown := impl.ShowTree(nodes); len(shown) != signs {
			t.Fatalf("%d signs, not %d", len(shown), signs)
		}
		if signs <= impl.MaxLetter {
			wantSentAs(t, nodes, expectedShown(nodes))
		} else {
			wantSent(t, nodes, "")
		}
	}
	full := strings.Repeat("&", 60)
	greatest := []impl.Node{element(-1, "abcdefghij:abcdefghij")}
	for len(greatest) < 50 {
		greatest = append(greatest, element(0, "abcdefghij:abcdefghij", "a", full, "b", full, "c", full, "d", full, "e", full, "f", full))
	}
	wantSent(t, greatest, "")
	// What was Made grows till it is too long to be sent: as long as it is sent it is let in.
	let := 0
	made := mustMake(t, houseKey, fullClaim(), "m1", false)
	for range 28 {
		made = withGraft(t, made, 0, `<x y="`+strings.Repeat("&quot;", 20)+`"/>`)
		if len(impl.ShowTree(made)) <= 4000 {
			let++
			wantLetIn(t, plainGate(), impl.Sent(made), fullClaim())
		} else {
			wantSent(t, made, "")
		}
	}
	if let == 0 || let == 28 {
		t.Errorf("%d are let in", let)
	}
}

func TestSentOfNoTree(t *testing.T) {
	for _, nodes := range noTrees() {
		wantSent(t, nodes, "")
	}
	made := mustMake(t, houseKey, fullClaim(), "m1", true)
	wantSent(t, made[1:], "")
	wantSent(t, append(slices.Clip(made), element(-1, "a")), "")
	for at := range made {
		for _, parent := range []int64{-2, int64(at), int64(len(made))} {
			wrong := slices.Clone(made)
			wrong[at].Parent = parent
			wantSent(t, wrong, "")
		}
	}
	// What was not sent is no letter.
	refused, _ := impl.Made(houseKey, fullClaim(), "", true)
	for _, nodes := range [][]impl.Node{nil, {}, refused, made[1:], lengthyTree(4001)} {
		wantTurnedAway(t, plainGate(), impl.Sent(nodes), impl.GtTree)
	}
}

// timely is a Claim with a Term that has a time in it.
func timely(c impl.Claim) impl.Claim {
	c.From, c.To = min(c.From, c.To, lastTime-1), max(c.From, c.To)
	c.To = max(c.To, c.From+1)
	return c
}

// Promise 18: what is Made as it should be is let in: once, with all that the Claim says.
func TestWhatIsMadeAsItShouldBeIsLetIn(t *testing.T) {
	answering := 0
	for seed := range 250 {
		next := dice(seed)
		c, k := timely(strewnClaim(next)), sealKeys()[next(4)]
		id := strewnText(next, "abcxyz0189", 12)
		if id == c.Id || c.Issuer == "another" {
			continue
		}
		if c.Answers != "" {
			answering++
		}
		skew := []int64{0, 1, 60, maxSkew}[next(4)]
		for way, made := range madeInAllWays(t, k, c, id) {
			wantMade(t, k, c, impl.IdOf(made, 0), way == 2, true)
			for _, now := range []int64{c.From, c.From + (c.To-c.From)/2, c.To - 1} {
				wantLetIn(t, gateFor(t, k, c, skew, now), impl.Sent(made), c)
			}
		}
		if t.Failed() {
			t.FailNow()
		}
	}
	if answering < 80 {
		t.Errorf("only %d answer", answering)
	}
}

// A gate that another thing is amiss with turns away what is Made as it should be, for that alone.
func TestWhatIsMadeIsTurnedAwayWhereItIsNotMeant(t *testing.T) {
	c := fullClaim()
	for _, made := range madeInAllWays(t, houseKey, c, "m1") {
		letters := impl.Sent(made)
		right := gateFor(t, houseKey, c, 0, 150)
		in := wantLetIn(t, right, letters, c)
		for _, one := range []struct {
			change func(g *impl.Gate)
			code   int64
		}{
			{func(g *impl.Gate) { g.Hands = nil }, impl.GtIssuer}, {func(g *impl.Gate) { g.Hands[1].Issuer = "other" }, impl.GtIssuer}, {func(g *impl.Gate) { g.Hands[1].Key = publicKey(mostKey) }, impl.GtSeal}, {func(g *impl.Gate) { g.Hands[0].Issuer, g.Hands[1].Issuer = "idp", "other" }, impl.GtSeal},
			{func(g *impl.Gate) { g.Now = 99 }, impl.GtTime}, {func(g *impl.Gate) { g.Now = 200 }, impl.GtTime}, {func(g *impl.Gate) { g.Name = "other" }, impl.GtFor}, {func(g *impl.Gate) { g.Asked = table(2) }, impl.GtAnswers}, {func(g *impl.Gate) { g.Asked = table(2, "r2 900") }, impl.GtAnswers},
			{func(g *impl.Gate) { g.Heard = table(2, "k1 200") }, impl.GtHeard}, {func(g *impl.Gate) { g.Heard = table(2, "k2 200", "k3 200") }, impl.GtFull}, {func(g *impl.Gate) { g.Skew = -1 }, impl.GtBad},
		} {
			g := copiedGate(right)
			one.change(&g)
			want := g
			if one.code == impl.GtBad {
				want = impl.Gate{}
			}
			wantConsumed(t, g, letters, want, impl.Claim{}, one.code)
		}
		// Of what was Made in another way of the same Claim nothing more is let in either.
		for _, other := range madeInAllWays(t, houseKey, c, "m2") {
			wantTurnedAway(t, in, impl.Sent(other), impl.GtAnswers)
			wantTurnedAway(t, mustAsk(t, in, "r1", 900), impl.Sent(other), impl.GtHeard)
		}
	}
}

// spoilNodes writes over all that Nodes have, and over the spare room behind it.
func spoilNodes(nodes []impl.Node) {
	nodes = nodes[:cap(nodes)]
	for i := range nodes {
		room := nodes[i].Attrs[:cap(nodes[i].Attrs)]
		for j := range room {
			room[j] = impl.Attr{Name: "changed", Value: "changed"}
		}
		nodes[i] = impl.Node{Parent: 77, Name: "changed", Text: "changed"}
	}
}

// Promise 21 for chapter 18: what is made of a Claim.
func TestMadeAnswersAreNewMemoryAndArgumentsStay(t *testing.T) {
	claims := []impl.Claim{{}, plainClaim(), fullClaim(), greatestClaim(), {Id: "X", Facts: attrs("a", "b")}, {Id: "a", Issuer: "a", Subject: "a", For: "a", Answers: "a", Facts: attrs("a", "a", "b", "a")}}
	for seed := range 12 {
		claims = append(claims, strewnClaim(dice(seed)))
	}
	made := 0
	for _, given := range claims {
		for _, id := range []string{"", "m1", "a", "M", given.Id, longestId} {
			c, stays := layClaim(copiedClaim(given))
			own, buffer := laid(id)
			all, lists := append(claimTokens(c), text(own)), [][]impl.Node{}
			apart := func(nodes []impl.Node, ok bool) {
				t.Helper()
				if ok {
					made++
				}
				wantApart(t, "what is made", nodeTokens(nodes), all)
				if slices.ContainsFunc(lists, func(other []impl.Node) bool { return sharesRoom(nodes, other) }) {
					t.Errorf("one list is told twice: %+v", nodes)
				}
				all, lists = append(all, nodeTokens(nodes)...), append(lists, nodes)
			}
			for range 2 {
				apart(impl.Letter(c, own))
				for _, k := range []impl.Key{houseKey, publicKey(houseKey)} {
					apart(impl.Made(k, c, own, false))
					apart(impl.Made(k, c, own, true))
				}
			}
			stays(t)
			// What is then done to one answer reaches neither the Claim nor another answer.
			for i, nodes := range lists {
				var before []string
				for _, other := range lists[i+1:] {
					before = append(before, impl.ShowTree(other))
				}
				spoilNodes(nodes)
				for j, other := range lists[i+1:] {
					if shown := impl.ShowTree(other); shown != before[j] {
						t.Errorf("%q became %q", before[j], shown)
					}
				}
			}
			stays(t)
			if string(buffer) != id+"spare room" {
				t.Errorf("the id %q became %q", id, buffer)
			}
		}
	}
	if made < 200 {
		t.Errorf("only %d were made", made)
	}
}

// Promise 21 for chapter 18: what is sent.
func TestSentIsNewMemoryAndTheTreeStays(t *testing.T) {
	trees := append(memoryTrees(), mustMake(t, houseKey, fullClaim(), "m1", true), mustMake(t, houseKey, plainClaim(), "", false), lengthyTree(4000), lengthyTree(4001))
	sent := 0
	for _, given := range trees {
		tree := layTree(given)
		letters, again := impl.Sent(tree.nodes), impl.Sent(tree.nodes)
		if letters != again || sharesMemory(letters, again) || slices.ContainsFunc(tokenTexts(nodeTokens(tree.nodes)), func(s string) bool { return sharesMemory(s, letters) }) {
			t.Errorf("the letters %q lie in the tree, or in others", letters)
		}
		if letters != "" {
			sent++
		}
		tree.stays(t)
	}
	if sent < 10 || sent == len(trees) {
		t.Errorf("%d of %d were sent", sent, len(trees))
	}
}

// Promise 21 for chapter 18: an answer to whatever is given, and the same one each time.
func TestMakerFunctionsAnswerEverywhere(t *testing.T) {
	words := append(noWords(), "a", "k1", "A.@", strings.Repeat("a", 12), strings.Repeat("a", 20))
	right, refused, sent := 0, 0, 0
	for seed := range 4000 {
		next := dice(seed)
		// Mostly what is right, so that each thing comes to be the only wrong one.
		c, id, k := strewnClaim(next), strewnText(next, "abz019", 12), sealKeys()[next(4)]
		for range max(0, next(4)-1) {
			word := words[next(len(words))]
			switch next(12) {
			case 0:
				c.Id = word
			case 1:
				c.Issuer = word
			case 2:
				c.Subject = word
			case 3:
				c.For = word
			case 4:
				c.Answers = word
			case 5:
				c.Facts = append(c.Facts, impl.Attr{Name: word, Value: words[next(len(words))]})
			case 6:
				c.From = farNumber(next)
			case 7:
				c.To = farNumber(next)
			case 8:
				id = word
			case 9:
				id = c.Id
			case 10:
				k = append(wrongKeys(), strayKeys()...)[next(len(wrongKeys())+len(strayKeys()))]
			case 11:
				k = impl.Key{N: farNumber(next), E: farNumber(next), D: farNumber(next)}
			}
		}
		outer := next(2) == 0
		_, isLetter := expectedLetterOf(c, id)
		_, isMade := expectedMade(k, c, id, outer)
		for range 2 {
			wantLetter(t, c, id, isLetter)
			wantMade(t, k, c, id, outer, isMade)
		}
		if isMade {
			right++
		} else {
			refused++
		}
		nodes := anyNodes(next)
		if next(10) == 0 {
			nodes = strewnTree(seed)
		}
		letters := expectedSent(nodes)
		wantSent(t, nodes, letters)
		if letters != "" {
			sent++
		}
		if t.Failed() {
			t.FailNow()
		}
	}
	if right < 1000 || refused < 1000 || sent < 100 {
		t.Errorf("%d were made, %d refused, %d sent", right, refused, sent)
	}
}
