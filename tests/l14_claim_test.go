package tests

import (
	"cmp"
	"fmt"
	"math"
	"regexp"
	"slices"
	"strings"
	"testing"

	"loop.example/g00379/impl"
)

var (
	wholeWord = regexp.MustCompile(`\A[a-zA-Z0-9.@]{1,20}\z`)
	wholeFact = regexp.MustCompile(`\A[!-~]([ -~\n]{0,28}[!-~])?\z`)
)

const lastTime = 3155759999

func expectedFactsOk(list []impl.Attr) bool {
	names := map[string]int{}
	for _, fact := range list {
		names[fact.Name]++
		if names[fact.Name] > 1 || !wholeWord.MatchString(fact.Name) || !wholeFact.MatchString(fact.Value) {
			return false
		}
	}
	return len(list) <= 4
}

func expectedClaimOk(c impl.Claim) bool {
	for _, word := range []string{c.Issuer, c.Subject, c.For} {
		if !wholeWord.MatchString(word) {
			return false
		}
	}
	for _, time := range []int64{c.From, c.To} {
		if time < 0 || time > lastTime {
			return false
		}
	}
	return wholeId.MatchString(c.Id) && (c.Answers == "" || wholeId.MatchString(c.Answers)) && expectedFactsOk(c.Facts)
}

// withElement lays an element and its text, if it has one, into another.
func withElement(nodes []impl.Node, parent int64, name, text string, pairs ...string) []impl.Node {
	at := int64(len(nodes))
	nodes = append(nodes, element(parent, name, pairs...))
	if text == "" {
		return nodes
	}
	return append(nodes, textNode(at, text))
}

// claimNodes are those of a Claim as the chapter tells them, also of one that is not right: then they may be no tree.
func claimNodes(c impl.Claim) []impl.Node {
	nodes := []impl.Node{element(-1, "c:Claim", "ns:c", "claim", "Id", c.Id)}
	nodes = withElement(nodes, 0, "c:Issuer", c.Issuer)
	nodes = withElement(nodes, 0, "c:Subject", c.Subject)
	nodes = withElement(nodes, 0, "c:Term", "", "From", expectedTimeText(c.From), "To", expectedTimeText(c.To))
	nodes = withElement(nodes, 0, "c:For", c.For)
	if c.Answers != "" {
		nodes = withElement(nodes, 0, "c:Answers", c.Answers)
	}
	for _, fact := range c.Facts {
		nodes = withElement(nodes, 0, "c:Fact", fact.Value, "Name", fact.Name)
	}
	return nodes
}

// expectedSayers holds under each local the kids that mean claim.
func expectedSayers(t []impl.Node, at int64) map[string][]int64 {
	sayers := map[string][]int64{}
	for _, kid := range expectedKids(t, at) {
		_, local := expectedParts(t[kid].Name)
		if expectedKnown(t, kid, local, "claim") {
			sayers[local] = append(sayers[local], kid)
		}
	}
	return sayers
}

// expectedAttr tells the Value of an Attr, and whether there is one.
func expectedAttr(n impl.Node, name string) (string, bool) {
	for _, a := range n.Attrs {
		if a.Name == name {
			return a.Value, true
		}
	}
	return "", false
}

func expectedDecoded(t []impl.Node, at int64) (impl.Claim, bool) {
	none := impl.Claim{}
	if !expectedNamesOk(t) || !expectedIdsOk(t) || !expectedKnown(t, at, "Claim", "claim") {
		return none, false
	}
	sayers, texts := expectedSayers(t, at), map[string]string{}
	for _, local := range []string{"Issuer", "Subject", "Term", "For", "Answers"} {
		count := len(sayers[local])
		if count > 1 || count == 0 && local != "Answers" {
			return none, false
		}
		if count == 1 {
			texts[local] = expectedTextIn(t, sayers[local][0])
		}
	}
	if answers, has := texts["Answers"]; has && answers == "" {
		return none, false
	}
	c := impl.Claim{Issuer: texts["Issuer"], Subject: texts["Subject"], For: texts["For"], Answers: texts["Answers"]}
	c.Id, _ = expectedOwnId(t, at)
	from, _ := expectedAttr(t[sayers["Term"][0]], "From")
	to, _ := expectedAttr(t[sayers["Term"][0]], "To")
	var isFrom, isTo bool
	c.From, isFrom = expectedTimeOf(from)
	c.To, isTo = expectedTimeOf(to)
	for _, kid := range sayers["Fact"] {
		name, has := expectedAttr(t[kid], "Name")
		if !has {
			return none, false
		}
		c.Facts = append(c.Facts, impl.Attr{Name: name, Value: expectedTextIn(t, kid)})
	}
	if !isFrom || !isTo || !expectedClaimOk(c) {
		return none, false
	}
	return c, true
}

func sameClaim(a, b impl.Claim) bool {
	return a.Id == b.Id && a.Issuer == b.Issuer && a.Subject == b.Subject && a.From == b.From && a.To == b.To && a.For == b.For && a.Answers == b.Answers && slices.Equal(a.Facts, b.Facts)
}

func wantDecoded(t *testing.T, nodes []impl.Node, at int64, want impl.Claim, right bool) {
	t.Helper()
	if got, ok := expectedDecoded(nodes, at); ok != right || !sameClaim(got, want) {
		t.Errorf("of %+v, %d the oracle says %+v, %v", nodes, at, got, ok)
	}
	if got, ok := impl.Decoded(nodes, at); ok != right || !sameClaim(got, want) {
		t.Errorf("Decoded(%+v, %d) = %+v, %v, not %+v, %v", nodes, at, got, ok, want, right)
	}
}

// wantSaid holds that the element there says this, and that no other element of the tree says anything.
func wantSaid(t *testing.T, nodes []impl.Node, at int64, want impl.Claim) {
	t.Helper()
	for other := int64(-2); other <= int64(len(nodes))+1; other++ {
		if other == at {
			wantDecoded(t, nodes, at, want, true)
		} else {
			wantDecoded(t, nodes, other, impl.Claim{}, false)
		}
	}
}

// wantUnsaid holds that no element of the Nodes says anything.
func wantUnsaid(t *testing.T, nodes []impl.Node) {
	t.Helper()
	wantSaid(t, nodes, math.MaxInt64, impl.Claim{})
}

// wantClaim holds whether a Claim is right: if so, it has its tree, which says it; else it has none, and what would be its tree says nothing.
func wantClaim(t *testing.T, c impl.Claim, right bool) {
	t.Helper()
	if got := expectedClaimOk(c); got != right {
		t.Errorf("of %+v the oracle says %v", c, got)
	}
	if got := impl.ClaimOk(c); got != right {
		t.Errorf("ClaimOk(%+v) = %v", c, got)
	}
	nodes, got := claimNodes(c), impl.ClaimTree(c)
	if !right {
		if len(got) != 0 {
			t.Errorf("ClaimTree(%+v) = %+v", c, got)
		}
		wantDecoded(t, nodes, 0, impl.Claim{}, false)
		return
	}
	if !sameTree(got, nodes) {
		t.Errorf("ClaimTree(%+v) = %+v, not %+v", c, got, nodes)
	}
	wantDecoded(t, got, 0, c, true)
}

// checkDecoded asks of Nodes, whatever they are, at each one and beyond both ends; it tells how many say something.
func checkDecoded(t *testing.T, nodes []impl.Node) int {
	t.Helper()
	// It is asked of thousands: one that fails tells enough.
	if t.Failed() {
		t.FailNow()
	}
	count := 0
	for at := int64(-2); at <= int64(len(nodes))+1; at++ {
		want, right := expectedDecoded(nodes, at)
		wantDecoded(t, nodes, at, want, right)
		if right {
			count++
		}
	}
	return count
}

// plainClaim is right, and has no more than it must.
func plainClaim() impl.Claim {
	return impl.Claim{Id: "k1", Issuer: "idp", Subject: "ann", From: 100, To: 200, For: "gate"}
}

func fullClaim() impl.Claim {
	c := plainClaim()
	c.Answers = "r1"
	c.Facts = attrs("role", "a < b", "mail", "ann@x.org", "x.@9", "&\n\"", "Role", ">")
	return c
}

const (
	plainLetter = `<c:Claim ns:c="claim" Id="k1"><c:Issuer>idp</c:Issuer><c:Subject>ann</c:Subject><c:Term From="2000-01-01T00:01:40Z" To="2000-01-01T00:03:20Z"></c:Term><c:For>gate</c:For>%s</c:Claim>`
	fullRest    = `<c:Answers>r1</c:Answers><c:Fact Name="role">a &lt; b</c:Fact><c:Fact Name="mail">ann@x.org</c:Fact><c:Fact Name="x.@9">&amp;` + "\n" + `"</c:Fact><c:Fact Name="Role">&gt;</c:Fact>`
)

func TestClaimTreeNodeByNode(t *testing.T) {
	plain := []impl.Node{
		element(-1, "c:Claim", "ns:c", "claim", "Id", "k1"),
		element(0, "c:Issuer"), textNode(1, "idp"),
		element(0, "c:Subject"), textNode(3, "ann"),
		element(0, "c:Term", "From", "2000-01-01T00:01:40Z", "To", "2000-01-01T00:03:20Z"),
		element(0, "c:For"), textNode(6, "gate"),
	}
	answers := append(slices.Clip(plain), element(0, "c:Answers"), textNode(8, "r1"))
	oneFact := append(slices.Clip(plain), element(0, "c:Fact", "Name", "role"), textNode(8, "a < b"))
	all := append(slices.Clip(answers),
		element(0, "c:Fact", "Name", "role"), textNode(10, "a < b"), element(0, "c:Fact", "Name", "mail"), textNode(12, "ann@x.org"),
		element(0, "c:Fact", "Name", "x.@9"), textNode(14, "&\n\""), element(0, "c:Fact", "Name", "Role"), textNode(16, ">"))
	withAnswers, withFact := plainClaim(), plainClaim()
	withAnswers.Answers = "r1"
	withFact.Facts = attrs("role", "a < b")
	for _, c := range []struct {
		claim impl.Claim
		want  []impl.Node
		rest  string
	}{
		{plainClaim(), plain, ""},
		{withAnswers, answers, `<c:Answers>r1</c:Answers>`},
		{withFact, oneFact, `<c:Fact Name="role">a &lt; b</c:Fact>`},
		{fullClaim(), all, fullRest},
	} {
		got, letter := impl.ClaimTree(c.claim), fmt.Sprintf(plainLetter, c.rest)
		if !sameTree(got, c.want) {
			t.Errorf("ClaimTree(%+v) = %+v, not %+v", c.claim, got, c.want)
		}
		if shown := impl.ShowTree(got); shown != letter {
			t.Errorf("ClaimTree(%+v) is shown as %q, not %q", c.claim, shown, letter)
		}
		if !impl.NamesOk(got) || !impl.IdsOk(got) || impl.IdOf(got, 0) != "k1" {
			t.Errorf("ClaimTree(%+v) is not right", c.claim)
		}
		wantSaid(t, letterTree(t, letter), 0, c.claim)
		wantClaim(t, c.claim, true)
	}
}

func TestFactsStayInTheirOrder(t *testing.T) {
	facts := fullClaim().Facts
	orders := 0
	for count := range 5 {
		eachOrder(facts[:count], func(list []impl.Attr) {
			orders++
			c := fullClaim()
			c.Facts = list
			wantClaim(t, c, true)
			c.Answers = ""
			wantClaim(t, c, true)
			got, _ := impl.Decoded(impl.ClaimTree(c), 0)
			if !slices.Equal(got.Facts, list) {
				t.Errorf("the Facts %+v became %+v", list, got.Facts)
			}
		})
	}
	if orders != 1+1+2+6+24 {
		t.Errorf("%d orders", orders)
	}
	// A Value may stand under two Names.
	same := plainClaim()
	same.Facts = attrs("b", "v", "a", "v", "A", "v", "ab", "v")
	wantClaim(t, same, true)
}

// eachWordOf holds one word in each of the places where a Claim has words, the others as they are.
func eachWordOf(word string, do func(c impl.Claim)) {
	for place := range 5 {
		c := fullClaim()
		switch place {
		case 0:
			c.Issuer = word
		case 1:
			c.Subject = word
		case 2:
			c.For = word
		case 3:
			c.Facts[0].Name = word
		case 4:
			c.Facts[3].Name = word
		}
		do(c)
	}
}

func wantWord(t *testing.T, word string, right bool) {
	t.Helper()
	eachWordOf(word, func(c impl.Claim) {
		t.Helper()
		wantClaim(t, c, right)
	})
}

func TestWordsOfAClaim(t *testing.T) {
	for length := range 62 {
		for _, sign := range []string{"a", "Z", "0", ".", "@"} {
			wantWord(t, strings.Repeat(sign, length), length >= 1 && length <= 20)
		}
	}
	for _, word := range []string{"a", "z", "A", "Z", "0", "9", ".", "@", "ann@x.org", "azAZ09.@azAZ09.@azAZ", "..", "@@", "0.0"} {
		wantWord(t, word, true)
	}
	for _, word := range []string{"", " ", "\n", "a b", " ann", "ann ", "ann\n", "\nann", "a-b", "a_b", "a:b", "c:a", "a/b", "a&b", "a<b", "<", ">", "\"", "'", "\x00", "\xff", "\u00e9", "a\tb", strings.Repeat("a", 1<<16)} {
		wantWord(t, word, false)
	}
	right := 0
	for b := range 256 {
		ok := strings.Contains("abcdefghijklmnopqrstuvwxyzABCDEFGHIJKLMNOPQRSTUVWXYZ0123456789.@", oneByte(b))
		if ok {
			right++
		}
		for _, word := range []string{oneByte(b), oneByte(b) + "x", "x" + oneByte(b), "x" + oneByte(b) + "x", strings.Repeat("x", 19) + oneByte(b)} {
			wantWord(t, word, ok)
		}
	}
	if right != 64 {
		t.Errorf("%d signs", right)
	}
}

func wantFactValue(t *testing.T, value string, right bool) {
	t.Helper()
	for place := range 4 {
		c := fullClaim()
		c.Facts[place].Value = value
		wantClaim(t, c, right)
	}
	one := plainClaim()
	one.Facts = attrs("a", value)
	wantClaim(t, one, right)
}

func TestValuesOfFacts(t *testing.T) {
	for length := range 63 {
		for _, sign := range []string{"a", "<", "&", "\"", "~"} {
			wantFactValue(t, strings.Repeat(sign, length), length >= 1 && length <= 30)
		}
		if length >= 2 {
			wantFactValue(t, "a"+strings.Repeat(" ", length-2)+"a", length <= 30)
			wantFactValue(t, "a"+strings.Repeat("\n", length-2)+"a", length <= 30)
		}
	}
	for _, value := range []string{"a b", "a\nb", "a \n b", "!", "~", "&amp;", "<b>", "--", "-->", "a=\"b\"", "]]>", "'"} {
		wantFactValue(t, value, true)
	}
	for _, value := range []string{"", " ", "\n", "  ", " \n ", " a", "a ", " a ", "\na", "a\n", "\na\n", " a\n", strings.Repeat("a", 29) + " ", " " + strings.Repeat("a", 29), strings.Repeat("a", 29) + "\n", "\t", "a\tb", "\r\n", "a\r", "\x00", "a\x7fb", "\x80", "\u00e9", strings.Repeat("a", 60), strings.Repeat("a", 61), strings.Repeat("a", 1<<16)} {
		wantFactValue(t, value, false)
	}
	for b := range 256 {
		outside, inside := b > 32 && b < 127, b == 10 || b >= 32 && b < 127
		wantFactValue(t, oneByte(b), outside)
		wantFactValue(t, oneByte(b)+"x", outside)
		wantFactValue(t, "x"+oneByte(b), outside)
		wantFactValue(t, "x"+oneByte(b)+"x", inside)
		wantFactValue(t, strings.Repeat("x", 28)+oneByte(b)+"x", inside)
	}
}

// numberedFacts are so many, all right, their Names unlike.
func numberedFacts(count int) []impl.Attr {
	var list []impl.Attr
	for i := range count {
		list = append(list, impl.Attr{Name: idNumber(i), Value: "v"})
	}
	return list
}

func TestHowManyFactsAClaimHas(t *testing.T) {
	for count := range 8 {
		for _, c := range []impl.Claim{plainClaim(), fullClaim()} {
			c.Facts = numberedFacts(count)
			wantClaim(t, c, count <= 4)
		}
	}
	many := plainClaim()
	many.Facts = slices.Repeat(attrs("a", "v"), 1<<16)
	if impl.ClaimOk(many) || len(impl.ClaimTree(many)) != 0 {
		t.Errorf("%d Facts are right", len(many.Facts))
	}
	none := plainClaim()
	none.Facts = []impl.Attr{}
	wantClaim(t, none, true)
}

func TestTwoFactsOfOneName(t *testing.T) {
	for count := 2; count <= 4; count++ {
		for one := range count {
			for other := range one {
				for _, value := range []string{"v", "w"} {
					c := plainClaim()
					c.Facts = numberedFacts(count)
					wantClaim(t, c, true)
					c.Facts[one] = impl.Attr{Name: c.Facts[other].Name, Value: value}
					wantClaim(t, c, false)
				}
			}
		}
	}
	// These are alike only as far as somebody does not look.
	near := plainClaim()
	near.Facts = attrs("role", "v", "Role", "v", "role.", "v", "rol", "v")
	wantClaim(t, near, true)
}

func TestTimesOfAClaim(t *testing.T) {
	times := []int64{0, 1, 59, 60, 86399, 86400, 5097600, 1<<31 - 1, 1 << 31, lastTime - 1, lastTime}
	for _, from := range times {
		for _, to := range times {
			c := fullClaim()
			c.From, c.To = from, to
			wantClaim(t, c, true)
		}
	}
	wrong := []int64{-1, -2, -100, lastTime + 1, lastTime + 2, 1 << 32, 1<<32 + 100, -1<<32 + 100, math.MinInt64, math.MinInt64 + 100, math.MaxInt64, -lastTime}
	for _, far := range wrong {
		for _, time := range append(slices.Clip(wrong), 0, 100, lastTime) {
			from, to := fullClaim(), plainClaim()
			from.From, from.To = far, time
			to.From, to.To = time, far
			wantClaim(t, from, false)
			wantClaim(t, to, false)
		}
	}
	for i, time := range turningTimes() {
		if i%7 == 0 && time >= 0 && time <= lastTime {
			c := plainClaim()
			c.From, c.To = time, lastTime-time
			wantClaim(t, c, true)
		}
	}
}

func TestIdAndAnswersOfAClaim(t *testing.T) {
	want := func(id string, right bool) {
		t.Helper()
		c, answering := plainClaim(), fullClaim()
		c.Id, answering.Answers = id, id
		wantClaim(t, c, right)
		// What answers nothing has no Answers.
		wantClaim(t, answering, right || id == "")
		both := fullClaim()
		both.Id, both.Answers = id, id
		wantClaim(t, both, right)
	}
	for length := range 62 {
		for _, sign := range []string{"a", "z", "0", "9"} {
			want(strings.Repeat(sign, length), length >= 1 && length <= 12)
		}
	}
	for b := range 256 {
		ok := strings.Contains("abcdefghijklmnopqrstuvwxyz0123456789", oneByte(b))
		for _, id := range []string{oneByte(b), "k" + oneByte(b), oneByte(b) + "k", "aaaaaaaaaaa" + oneByte(b)} {
			want(id, ok)
		}
	}
	for _, id := range []string{"K1", "k-1", "k.1", "k@1", " k1", "k1 ", "k1\n", "\u00e9", strings.Repeat("a", 1<<16)} {
		want(id, false)
	}
}

func TestEachFieldOfAClaimIsAsked(t *testing.T) {
	wantClaim(t, impl.Claim{}, false)
	for _, right := range []impl.Claim{plainClaim(), fullClaim()} {
		for i, wrong := range []func(c *impl.Claim){
			func(c *impl.Claim) { c.Id = "" }, func(c *impl.Claim) { c.Id = "X" }, func(c *impl.Claim) { c.Issuer = "" }, func(c *impl.Claim) { c.Issuer = "-" }, func(c *impl.Claim) { c.Subject = "" }, func(c *impl.Claim) { c.Subject = "-" }, func(c *impl.Claim) { c.For = "" }, func(c *impl.Claim) { c.For = "-" },
			func(c *impl.Claim) { c.From = -1 }, func(c *impl.Claim) { c.To = -1 }, func(c *impl.Claim) { c.Answers = "X" }, func(c *impl.Claim) { c.Facts = attrs("a", "") }, func(c *impl.Claim) { c.Facts = attrs("", "a") }, func(c *impl.Claim) { c.Facts = attrs("a", "v", "b", "v", "c", " ") }, func(c *impl.Claim) { c.Facts = make([]impl.Attr, 1) },
		} {
			c := right
			c.Facts = slices.Clone(c.Facts)
			wantClaim(t, c, true)
			wrong(&c)
			if impl.ClaimOk(c) {
				t.Errorf("%d is not asked", i)
			}
			wantClaim(t, c, false)
		}
	}
}

// claimBy is a letter of one Claim with these kids: what is said of it stands in them alone.
func claimBy(kids ...string) string {
	return `<c:Claim ns:c="claim" Id="k1">` + strings.Join(kids, "") + `</c:Claim>`
}

// fullKids are those of fullClaim, one by one.
func fullKids() []string {
	return []string{
		`<c:Issuer>idp</c:Issuer>`, `<c:Subject>ann</c:Subject>`, `<c:Term From="2000-01-01T00:01:40Z" To="2000-01-01T00:03:20Z"/>`, `<c:For>gate</c:For>`, `<c:Answers>r1</c:Answers>`,
		`<c:Fact Name="role">a &lt; b</c:Fact>`, `<c:Fact Name="mail">ann@x.org</c:Fact>`, `<c:Fact Name="x.@9">&amp;` + "\n\"</c:Fact>", `<c:Fact Name="Role">&gt;</c:Fact>`,
	}
}

// plainKids are those of plainClaim.
func plainKids() []string { return fullKids()[:4] }

func swapped(list []string, i, j int) []string {
	out := slices.Clone(list)
	out[i], out[j] = out[j], out[i]
	return out
}

func TestKidsInAnotherOrder(t *testing.T) {
	wantSaid(t, letterTree(t, claimBy(fullKids()...)), 0, fullClaim())
	// All orders of those that say a plain Claim.
	orders := 0
	eachOrder(attrs("0", "", "1", "", "2", "", "3", ""), func(order []impl.Attr) {
		orders++
		var kids []string
		for _, one := range order {
			kids = append(kids, plainKids()[one.Name[0]-'0'])
		}
		wantSaid(t, letterTree(t, claimBy(kids...)), 0, plainClaim())
	})
	if orders != 24 {
		t.Errorf("%d orders", orders)
	}
	// Any two of all change places; of Facts it is told.
	for i := range 9 {
		for j := range i {
			want := fullClaim()
			if i > 4 && j > 4 {
				want.Facts[i-5], want.Facts[j-5] = want.Facts[j-5], want.Facts[i-5]
			} else if i > 4 {
				moved := want.Facts[i-5]
				want.Facts = append([]impl.Attr{moved}, slices.Delete(slices.Clone(want.Facts), i-5, i-4)...)
			}
			wantSaid(t, letterTree(t, claimBy(swapped(fullKids(), i, j)...)), 0, want)
		}
	}
	back := fullKids()
	slices.Reverse(back)
	want := fullClaim()
	slices.Reverse(want.Facts)
	wantSaid(t, letterTree(t, claimBy(back...)), 0, want)
}

// passedOver are kids that say nothing of a Claim, wherever they stand in it.
func passedOver() []string {
	return []string{
		"x", " ", "\n", "idp", `<x/>`, `<c:x/>`, `<Issuer>other</Issuer>`, `<Subject/>`, `<Term/>`, `<For>other</For>`, `<Answers>r2</Answers>`, `<Answers/>`, `<Fact/>`, `<Fact Name="a">b</Fact>`,
		// Another meaning, or another local that means claim.
		`<c:Subject ns:c="other">eve</c:Subject>`, `<c:Subject ns:c="claims">eve</c:Subject>`, `<d:Subject ns:d="claim/">eve</d:Subject>`, `<Subject ns="seal">eve</Subject>`, `<c:subject>eve</c:subject>`, `<c:SUBJECT>eve</c:SUBJECT>`, `<c:Subjects>eve</c:Subjects>`, `<c:Facts Name="a">b</c:Facts>`, `<c:fact/>`, `<c:From/>`, `<c:To/>`, `<c:Id>k2</c:Id>`, `<c:Name>a</c:Name>`, `<c:Seal/>`, `<c:Letter/>`, `<c:c/>`, `<claim:Subject ns:claim="c">eve</claim:Subject>`,
		// Further in.
		`<x><c:Subject>eve</c:Subject></x>`, `<c:x><c:Issuer>other</c:Issuer><c:Fact/></c:x>`, `<x><c:Answers/><c:Term/></x>`, `<c:Claim><c:Subject>eve</c:Subject></c:Claim>`,
		// Seals, right or not, and others with an Id.
		someSeal, `<s:Seal ns:s="seal" Ref="k1" Sum="0000000001" Sign="0000000002"/>`, `<s:Seal ns:s="seal"/>`, `<x Id="k2"/>`, `<c:Claim Id="k2"/>`, `<x Name="a" From="b" To="c">y</x>`,
	}
}

func TestOtherKidsArePassedOver(t *testing.T) {
	for _, other := range passedOver() {
		for place := range 10 {
			wantSaid(t, letterTree(t, claimBy(slices.Insert(fullKids(), place, other)...)), 0, fullClaim())
		}
		// Between all.
		kids := []string{}
		for _, kid := range plainKids() {
			if strings.Contains(other, `Id=`) {
				kids = append(kids, "-")
			} else {
				kids = append(kids, other)
			}
			kids = append(kids, kid)
		}
		wantSaid(t, letterTree(t, claimBy(kids...)), 0, plainClaim())
		// It does not say what nobody else says.
		for gone := range 4 {
			less := slices.Insert(slices.Delete(plainKids(), gone, gone+1), 0, other)
			wantUnsaid(t, letterTree(t, claimBy(less...)))
		}
	}
	// As many as there is room for.
	full := append(fullKids(), slices.Repeat([]string{"<x/>"}, 50-18)...)
	wantSaid(t, letterTree(t, claimBy(full...)), 0, fullClaim())
	if _, ok := impl.ReadTree(claimBy(append(full, "<x/>")...)); ok {
		t.Error("51 are a tree")
	}
}

func TestKidsLeftOutOrThereTwice(t *testing.T) {
	for i := range 9 {
		less := slices.Delete(fullKids(), i, i+1)
		want := fullClaim()
		switch {
		case i < 4:
			wantUnsaid(t, letterTree(t, claimBy(less...)))
		case i == 4:
			want.Answers = ""
			wantSaid(t, letterTree(t, claimBy(less...)), 0, want)
		default:
			want.Facts = slices.Delete(want.Facts, i-5, i-4)
			wantSaid(t, letterTree(t, claimBy(less...)), 0, want)
		}
		// Twice, whatever the other one says, and wherever it stands. (Of Facts that makes five.)
		for place := range 10 {
			wantUnsaid(t, letterTree(t, claimBy(slices.Insert(fullKids(), place, fullKids()[i])...)))
		}
	}
	for place := range 5 {
		for _, other := range []string{
			`<c:Issuer>other</c:Issuer>`, `<c:Issuer/>`, `<c:Subject>eve</c:Subject>`, `<c:Subject/>`, `<c:Subject>-</c:Subject>`, `<c:Term From="2000-01-01T00:00:00Z" To="2099-12-31T23:59:59Z"/>`, `<c:Term/>`, `<c:For>other</c:For>`, `<c:For/>`, `<d:Subject ns:d="claim">eve</d:Subject>`, `<Issuer ns="claim">idp</Issuer>`,
			// And what may be there once, but not so.
			`<c:Answers/>`, `<c:Answers><x>r1</x></c:Answers>`, `<c:Answers>R</c:Answers>`, `<c:Answers> </c:Answers>`, `<c:Answers>r1</c:Answers><c:Answers>r1</c:Answers>`, `<c:Answers>r1</c:Answers><c:Answers/>`, `<c:Answers/><c:Answers/>`, `<c:Answers/>-<c:Answers>r1</c:Answers>`,
			`<c:Fact/>`, `<c:Fact>v</c:Fact>`, `<c:Fact Name="a"/>`, `<c:Fact Name="">v</c:Fact>`, `<c:Fact name="a">v</c:Fact>`, `<c:Fact c:Name="a">v</c:Fact>`, `<c:Fact Name="a"> v</c:Fact>`, `<c:Fact Name="a-b">v</c:Fact>`, `<c:Fact Name="a"><x>v</x></c:Fact>`, `<c:Fact Name="a">v</c:Fact><c:Fact>v</c:Fact>`, `<c:Fact Name="a">v</c:Fact><c:Fact Name="a">w</c:Fact>`,
			strings.Repeat(`<c:Fact/>`, 5), fullKids()[5] + fullKids()[6] + fullKids()[7] + fullKids()[8] + `<c:Fact Name="a">v</c:Fact>`,
		} {
			wantUnsaid(t, letterTree(t, claimBy(slices.Insert(plainKids(), place, other)...)))
		}
	}
	wantUnsaid(t, letterTree(t, claimBy()))
	wantUnsaid(t, letterTree(t, claimBy("x")))
}

func TestPrefixesThatMeanClaim(t *testing.T) {
	const term = ` From="2000-01-01T00:01:40Z" To="2000-01-01T00:03:20Z"`
	for _, c := range []struct {
		letter string
		at     int64
	}{
		// Written otherwise, or with none.
		{`<d:Claim ns:d="claim" Id="k1"><d:Issuer>idp</d:Issuer><d:Subject>ann</d:Subject><d:Term` + term + `/><d:For>gate</d:For></d:Claim>`, 0},
		{`<Claim ns="claim" Id="k1"><Issuer>idp</Issuer><Subject>ann</Subject><Term` + term + `/><For>gate</For></Claim>`, 0},
		{`<Claim:Claim Id="k1" ns:Claim="claim"><Claim:Issuer>idp</Claim:Issuer><Claim:Subject>ann</Claim:Subject><Claim:Term` + term + `/><Claim:For>gate</Claim:For></Claim:Claim>`, 0},
		{`<c:Claim ns:c="claim" ns="claim" ns:e="claim" Id="k1"><Issuer>idp</Issuer><c:Subject>ann</c:Subject><e:Term` + term + `/><f:For ns:f="claim">gate</f:For></c:Claim>`, 0},
		{`<c:Claim ns:c="claim" Id="k1"><Issuer ns="claim">idp</Issuer><d:Subject ns:d="claim">ann</d:Subject><c:Term ns:c="claim"` + term + `/><c:For>gate</c:For></c:Claim>`, 0},
		// Declared further out.
		{`<a ns:c="claim"><c:Claim Id="k1"><c:Issuer>idp</c:Issuer><c:Subject>ann</c:Subject><c:Term` + term + `/><c:For>gate</c:For></c:Claim></a>`, 1},
		{`<a ns="claim"><b><Claim Id="k1"><Issuer>idp</Issuer><Subject>ann</Subject><Term` + term + `/><For>gate</For></Claim></b></a>`, 2},
		{`<a ns="claim" ns:c="u">x<c:Claim ns:c="claim" Id="k1"><Issuer>idp</Issuer><c:Subject>ann</c:Subject><Term` + term + `/><c:For>gate</c:For></c:Claim></a>`, 2},
		{`<c:a ns:c="u"><c:b ns:c="claim"><c:Claim Id="k1"><c:Issuer>idp</c:Issuer><c:Subject>ann</c:Subject><c:Term` + term + `/><c:For>gate</c:For></c:Claim></c:b></c:a>`, 2},
		// Within a kid it may mean what it will: only texts are read there.
		{`<Claim ns="claim" Id="k1"><Issuer>i<b ns="u"/>dp</Issuer><Subject>ann</Subject><Term ns:c="u"` + term + `/><For>gate</For></Claim>`, 0},
	} {
		wantSaid(t, letterTree(t, c.letter), c.at, plainClaim())
	}
	// Otherwise all is as it should be, only it, or one of its kids, does not mean that.
	for _, c := range [][2]string{
		{`ns:c="claim"`, `ns:c="Claim"`}, {`ns:c="claim"`, `ns:c="clai"`}, {`ns:c="claim"`, `ns:c="claims"`}, {`ns:c="claim"`, `ns:c="c"`}, {`ns:c="claim"`, `ns:c="seal"`}, {`ns:c="claim"`, `ns="claim"`}, {`ns:c="claim"`, `ns:c=""`}, {`ns:c="claim"`, `ns:d="claim"`}, {` ns:c="claim"`, ``},
		{`<c:Claim ns:c`, `<c:claim ns:c`}, {`<c:Claim ns:c`, `<c:CLAIM ns:c`}, {`<c:Claim ns:c`, `<c:Claims ns:c`}, {`<c:Claim ns:c`, `<Claim ns:c`}, {`<c:Claim ns:c`, `<c:Letter ns:c`}, {`<c:Claim ns:c`, `<d:Claim ns:d="u" ns:c`},
		{`<c:Issuer>`, `<Issuer>`}, {`<c:Issuer>`, `<c:issuer>`}, {`<c:Issuer>`, `<c:Issuer ns:c="u">`}, {`<c:Subject>`, `<Subject>`}, {`<c:Subject>`, `<c:Subject ns:c="claim/x">`}, {`<c:Subject>`, `<c:Subj>`}, {`<c:Term `, `<Term `}, {`<c:Term `, `<c:Term ns:c="u" `}, {`<c:Term `, `<c:Terms `}, {`<c:For>`, `<For>`}, {`<c:For>`, `<c:For ns:c="u">`}, {`<c:For>`, `<c:for>`},
	} {
		letter := fmt.Sprintf(plainLetter, "")
		changed := strings.Replace(letter, c[0], c[1], 1)
		// The close is named as the open then is.
		old, _, _ := strings.Cut(strings.Trim(c[0], "<"), " ")
		own, _, _ := strings.Cut(strings.Trim(c[1], "<"), " ")
		if strings.HasPrefix(c[0], "<") {
			changed = strings.Replace(changed, "</"+strings.Trim(old, ">")+">", "</"+strings.Trim(own, ">")+">", 1)
		}
		if changed == letter {
			t.Fatalf("%q is not there", c[0])
		}
		wantUnsaid(t, letterTree(t, changed))
	}
	// Answers and Facts that do not mean that are as none.
	for _, other := range []string{`<Answers>r1</Answers>`, `<c:Answers ns:c="u">r1</c:Answers>`, `<Fact Name="role">v</Fact>`, `<c:Fact ns:c="u" Name="role">v</c:Fact>`} {
		wantSaid(t, letterTree(t, claimBy(append(plainKids(), other)...)), 0, plainClaim())
	}
	for _, other := range []string{`<Answers ns="claim">r1</Answers>`, `<d:Answers ns:d="claim">r1</d:Answers>`} {
		want := plainClaim()
		want.Answers = "r1"
		wantSaid(t, letterTree(t, claimBy(append(plainKids(), other)...)), 0, want)
	}
}

func TestAttrsOfKidsAmongOthers(t *testing.T) {
	// In every order, with others beside.
	list := attrs("From", "2000-01-01T00:01:40Z", "To", "2000-01-01T00:03:20Z", "from", "x", "c:From", "2001-01-01T00:00:00Z", "Name", "y")
	orders := 0
	eachOrder(list, func(order []impl.Attr) {
		orders++
		nodes := impl.ClaimTree(fullClaim())
		nodes[5].Attrs = order
		if got, ok := impl.Decoded(nodes, 0); !ok || !sameClaim(got, fullClaim()) {
			t.Errorf("by %+v it says %+v, %v", order, got, ok)
		}
	})
	if orders != 120 {
		t.Errorf("%d orders", orders)
	}
	for _, fact := range [][]impl.Attr{attrs("Name", "role", "name", "x"), attrs("name", "x", "Name", "role"), attrs("c:Name", "x", "Name", "role", "To", "y"), attrs("ns", "u", "Names", "x", "ns:Name", "u", "Name", "role", "From", "", "x", "")} {
		nodes := impl.ClaimTree(fullClaim())
		nodes[10].Attrs = fact
		wantSaid(t, nodes, 0, fullClaim())
	}
	// The Id may stand behind others; what else an element has is passed over.
	for _, own := range [][]impl.Attr{attrs("Id", "k1", "ns:c", "claim"), attrs("id", "x", "ns:c", "claim", "c:Id", "X", "Id", "k1", "Name", "", "From", "x"), attrs("ns", "claim", "ns:d", "u", "ns:c", "claim", "Id", "k1")} {
		nodes := impl.ClaimTree(fullClaim())
		nodes[0].Attrs = own
		wantSaid(t, nodes, 0, fullClaim())
	}
	for at := int64(1); at < 18; at++ {
		nodes := impl.ClaimTree(fullClaim())
		if nodes[at].Name != "" {
			nodes[at].Attrs = append(nodes[at].Attrs, attrs("Id", "k2", "x", "y", "ns", "u")...)
			wantSaid(t, nodes, 0, fullClaim())
		}
	}
}

func TestTermsThatTellNoTime(t *testing.T) {
	const from, to = "2000-01-01T00:01:40Z", "2000-01-01T00:03:20Z"
	wrong := [][]impl.Attr{nil, attrs("From", from), attrs("To", to), attrs("from", from, "to", to), attrs("FROM", from, "TO", to), attrs("c:From", from, "To", to), attrs("From", from, "c:To", to), attrs("From", from, "Till", to), attrs("x", from, "y", to), attrs("ns:From", "u", "To", to)}
	for _, text := range []string{"", "x", "100", "0", "2000-01-01", "2000-01-01T00:01:40", "2000-01-01T00:01:40Z ", " 2000-01-01T00:01:40Z", "2000-01-01T00:01:60Z", "2001-02-29T00:00:00Z", "1999-12-31T23:59:59Z", "2100-01-01T00:00:00Z", "2000-01-01t00:01:40z", "2000-01-01 00:01:40Z", "2000-1-01T00:01:40Z", "+000-01-01T00:01:40Z"} {
		wrong = append(wrong, attrs("From", text, "To", to), attrs("From", from, "To", text), attrs("From", text, "To", text))
	}
	for _, list := range wrong {
		nodes := impl.ClaimTree(fullClaim())
		nodes[5].Attrs = list
		wantUnsaid(t, nodes)
	}
	// Told as a text it is not told.
	wantUnsaid(t, letterTree(t, claimBy(`<c:Issuer>idp</c:Issuer>`, `<c:Subject>ann</c:Subject>`, `<c:Term>`+from+`</c:Term>`, `<c:For>gate</c:For>`)))
	for _, c := range []struct {
		from, to string
		want     [2]int64
	}{
		{"2000-01-01T00:00:00Z", "2099-12-31T23:59:59Z", [2]int64{0, lastTime}}, {"2099-12-31T23:59:59Z", "2000-01-01T00:00:00Z", [2]int64{lastTime, 0}}, {"2000-01-01T00:00:00Z", "2000-01-01T00:00:00Z", [2]int64{0, 0}}, {"2004-02-29T00:00:00Z", "2001-03-01T01:00:00Z", [2]int64{131328000, 36723600}},
	} {
		nodes, want := impl.ClaimTree(fullClaim()), fullClaim()
		nodes[5].Attrs = attrs("To", c.to, "From", c.from)
		want.From, want.To = c.want[0], c.want[1]
		wantSaid(t, nodes, 0, want)
	}
	// What stands in a Term is passed over.
	wantSaid(t, letterTree(t, claimBy(`<c:Issuer>idp</c:Issuer>`, `<c:Subject>ann</c:Subject>`, `<c:Term From="`+from+`" To="`+to+`">x<c:Term/>y<c:Subject>eve</c:Subject></c:Term>`, `<c:For>gate</c:For>`)), 0, plainClaim())
}

func TestTextsInSeveralPartsOrFurtherIn(t *testing.T) {
	for _, c := range []struct{ inside, text string }{
		{`ann`, "ann"}, {`a<x/>nn`, "ann"}, {`<x/>ann`, "ann"}, {`ann<x/>`, "ann"}, {`a<x/>n<y/>n<z/>`, "ann"}, {`a<x>-</x>nn`, "ann"}, {`<c:Subject>eve</c:Subject>ann`, "ann"}, {`an<x><y>eve</y></x>n`, "ann"}, {`a<!-- eve -->nn`, "ann"}, {`a<x Id="x"/>nn`, "ann"},
		{``, ""}, {`<x>ann</x>`, ""}, {`<x/>`, ""}, {`<c:Subject>ann</c:Subject>`, ""}, {`an<x>n</x>`, "an"},
		{strings.Repeat("a", 10) + `<x/>` + strings.Repeat("b", 10), strings.Repeat("a", 10) + strings.Repeat("b", 10)}, {strings.Repeat("a", 10) + `<x/>` + strings.Repeat("b", 11), strings.Repeat("a", 10) + strings.Repeat("b", 11)}, {strings.Repeat("aaa<x/>", 7), strings.Repeat("a", 21)}, {strings.Repeat("aa<x/>", 10), strings.Repeat("a", 20)}, {strings.Repeat("aa<x/>", 6), strings.Repeat("a", 12)},
		{` <x/>ann`, " ann"}, {`ann<x/>` + "\n", "ann\n"}, {`a<x/> <y/>nn`, "a nn"},
	} {
		nodes := func(place int, open, end string) []impl.Node {
			kids := plainKids()
			if place < 4 {
				kids[place] = open + c.inside + end
			} else {
				kids = append(kids, open+c.inside+end)
			}
			return letterTree(t, claimBy(kids...))
		}
		of := func(place int, open, end string, field func(*impl.Claim) *string) {
			t.Helper()
			want := plainClaim()
			*field(&want) = c.text
			if wholeWord.MatchString(c.text) {
				wantSaid(t, nodes(place, open, end), 0, want)
			} else {
				wantUnsaid(t, nodes(place, open, end))
			}
		}
		of(0, `<c:Issuer>`, `</c:Issuer>`, func(c *impl.Claim) *string { return &c.Issuer })
		of(1, `<c:Subject>`, `</c:Subject>`, func(c *impl.Claim) *string { return &c.Subject })
		of(3, `<c:For>`, `</c:For>`, func(c *impl.Claim) *string { return &c.For })
		answering, saying := plainClaim(), plainClaim()
		answering.Answers, saying.Facts = c.text, attrs("a", c.text)
		if wholeId.MatchString(c.text) {
			wantSaid(t, nodes(4, `<c:Answers>`, `</c:Answers>`), 0, answering)
		} else {
			wantUnsaid(t, nodes(4, `<c:Answers>`, `</c:Answers>`))
		}
		if wholeFact.MatchString(c.text) {
			wantSaid(t, nodes(4, `<c:Fact Name="a">`, `</c:Fact>`), 0, saying)
		} else {
			wantUnsaid(t, nodes(4, `<c:Fact Name="a">`, `</c:Fact>`))
		}
	}
	// A Value of several parts, none of which is right by itself.
	for parts, right := range map[string]bool{`a<x/> <y/>b`: true, `a <x/> b`: true, `a<x/>` + "\n" + `<y/>b`: true, ` <x/>b`: false, `b<x/> `: false, strings.Repeat("a", 30) + `<x/>`: true, strings.Repeat("a", 30) + `<x/>b`: false, strings.Repeat("a", 60) + `<x/>` + strings.Repeat("a", 60): false} {
		nodes, want := letterTree(t, claimBy(append(plainKids(), `<c:Fact Name="a">`+parts+`</c:Fact>`)...)), plainClaim()
		if right {
			want.Facts = attrs("a", expectedTextIn(nodes, 8))
			wantSaid(t, nodes, 0, want)
		} else {
			wantUnsaid(t, nodes)
		}
	}
}

func TestClaimsElsewhereInATree(t *testing.T) {
	claim := impl.ClaimTree(fullClaim())
	for _, nodes := range [][]impl.Node{middleTree(), chain(6), wide(32), letterTree(t, `<c:Letter ns:c="claim" Id="outer">x</c:Letter>`), letterTree(t, `<a ns:c="u" ns="claim"><Claim/><c:Claim Id="k2"/></a>`), letterTree(t, `<Claim ns="claim" Id="k0"/>`)} {
		for _, at := range elementsOf(nodes) {
			grafted, ok := impl.Grafted(nodes, at, claim)
			if !ok {
				continue
			}
			there := impl.EndOf(nodes, at)
			if !impl.NamesOk(grafted) {
				wantUnsaid(t, grafted)
				continue
			}
			wantSaid(t, grafted, there, fullClaim())
			if wrapped, ok := impl.Wrapped(grafted, there, "w"); ok {
				wantSaid(t, wrapped, there+1, fullClaim())
			}
			if branch, ok := impl.Branch(grafted, there); !ok || !sameTree(branch, claim) {
				t.Errorf("%+v is not what was grafted", branch)
			}
		}
	}
	// A kid that is wrapped is no kid any more.
	for at := int64(1); at < int64(len(claim)); at++ {
		wrapped, ok := impl.Wrapped(claim, at, "w")
		if !ok {
			continue
		}
		want := fullClaim()
		switch {
		case at < 8:
			wantUnsaid(t, wrapped)
			continue
		case at == 8:
			want.Answers = ""
		default:
			want.Facts = slices.Delete(want.Facts, int(at-10)/2, int(at-10)/2+1)
		}
		wantSaid(t, wrapped, 0, want)
	}
	// Of two beside or in one another each says its own.
	other := plainClaim()
	other.Id, other.Subject = "k2", "eve"
	house := letterTree(t, `<a>x</a>`)
	both, _ := impl.Grafted(house, 0, impl.ClaimTree(fullClaim()))
	both, _ = impl.Grafted(both, 0, impl.ClaimTree(other))
	wantDecoded(t, both, 2, fullClaim(), true)
	wantDecoded(t, both, 20, other, true)
	within, _ := impl.Grafted(impl.ClaimTree(fullClaim()), 0, impl.ClaimTree(other))
	wantDecoded(t, within, 0, fullClaim(), true)
	wantDecoded(t, within, 18, other, true)
	// With one Id none says anything.
	twice, _ := impl.Grafted(both, 0, impl.ClaimTree(plainClaim()))
	wantUnsaid(t, twice)
}

func TestSealedClaimsSayTheSame(t *testing.T) {
	for _, c := range []impl.Claim{plainClaim(), fullClaim()} {
		for _, k := range sealKeys() {
			sealed, at := sealedTree(t, impl.ClaimTree(c), 0, k)
			wantSaid(t, sealed, 0, c)
			// Who looks at the seal is another matter.
			sealed[at].Attrs[3].Value = "0000000000"
			wantSaid(t, sealed, 0, c)
			moved, ok := impl.Grafted(letterTree(t, `<l:Letter ns:l="claim" Id="outer"/>`), 0, sealed)
			if !ok {
				t.Fatalf("%+v has no room", sealed)
			}
			wantSaid(t, moved, 1, c)
		}
	}
}

func TestClaimsWithoutAnId(t *testing.T) {
	for _, own := range [][]impl.Attr{attrs("ns:c", "claim"), attrs("ns:c", "claim", "id", "k1"), attrs("ns:c", "claim", "ID", "k1"), attrs("ns:c", "claim", "c:Id", "k1"), attrs("ns:c", "claim", "ns:Id", "k1"), attrs("ns:c", "claim", "Id", ""), attrs("ns:c", "claim", "Id", "K"), attrs("ns:c", "claim", "Id", "k 1"), attrs("ns:c", "claim", "Id", strings.Repeat("k", 13))} {
		for _, c := range []impl.Claim{plainClaim(), fullClaim()} {
			nodes := impl.ClaimTree(c)
			nodes[0].Attrs = own
			wantUnsaid(t, nodes)
			// Nor is it that of one around, or of a kid.
			house, _ := impl.Grafted([]impl.Node{element(-1, "a", "Id", "k1")}, 0, nodes)
			wantUnsaid(t, house)
			nodes[1].Attrs = attrs("Id", "k1")
			wantUnsaid(t, nodes)
		}
	}
}

func TestClaimsOfNoTree(t *testing.T) {
	for _, given := range noTrees() {
		for _, at := range append(farNumbers(), -2, -1, 0, 1, 2, 50, 51, int64(len(given))-1, int64(len(given))) {
			if got, ok := impl.Decoded(given, at); ok || !sameClaim(got, impl.Claim{}) {
				t.Errorf("Decoded of no tree at %d = %+v, %v", at, got, ok)
			}
		}
	}
	// One that would say something, were it a tree.
	for _, wrong := range []func(nodes []impl.Node, at int){
		func(nodes []impl.Node, at int) { nodes[at].Parent = 17 }, func(nodes []impl.Node, at int) { nodes[at].Parent = -2 }, func(nodes []impl.Node, at int) { nodes[at].Parent = math.MaxInt64 }, func(nodes []impl.Node, at int) { nodes[at].Parent = int64(at) },
		func(nodes []impl.Node, at int) { nodes[at].Name, nodes[at].Text = "c:Fact", "v" }, func(nodes []impl.Node, at int) { nodes[at].Name = "c:" }, func(nodes []impl.Node, at int) { nodes[at].Text = "\xff" }, func(nodes []impl.Node, at int) { nodes[at].Attrs = attrs("1", "x") }, func(nodes []impl.Node, at int) { nodes[at].Attrs = attrs("x", "1", "x", "1") },
	} {
		for at := range 18 {
			nodes := impl.ClaimTree(fullClaim())
			wrong(nodes, at)
			if impl.TreeOk(nodes) {
				t.Fatalf("%+v is a tree", nodes)
			}
			wantUnsaid(t, nodes)
		}
	}
	nodes := impl.ClaimTree(fullClaim())
	wantUnsaid(t, nodes[1:])
	wantUnsaid(t, append(slices.Clip(nodes), element(-1, "a")))
	wantUnsaid(t, append(slices.Clip(nodes), slices.Repeat([]impl.Node{element(0, "x")}, 33)...))
	wantSaid(t, append(slices.Clip(nodes), slices.Repeat([]impl.Node{element(0, "x")}, 32)...), 0, fullClaim())
}

func TestClaimsAmongWrongNamesOrIds(t *testing.T) {
	claim := impl.ClaimTree(fullClaim())
	house := func(kid impl.Node) []impl.Node {
		return append([]impl.Node{element(-1, "a"), kid}, claimBehind(claim, 2)...)
	}
	wantSaid(t, house(element(0, "b", "Id", "k2")), 2, fullClaim())
	for _, wrong := range []impl.Node{
		element(0, "p:b"), element(0, "c:Claim"), element(0, "b", "p:x", "1"), element(0, "b", "ns", "U"), element(0, "b", "ns:p", ""), element(0, "ns:b"), element(0, "b", "ns:p", "u", "ns:q", "u", "p:x", "1", "q:x", "1"),
		element(0, "b", "Id", "k1"), element(0, "b", "Id", ""), element(0, "b", "Id", "K"), element(0, "b", "Id", strings.Repeat("k", 13)),
	} {
		nodes := house(wrong)
		if !impl.TreeOk(nodes) {
			t.Fatalf("%+v is no tree", nodes)
		}
		wantUnsaid(t, nodes)
		// In the Claim itself, and further in there.
		for _, at := range []int64{0, 1, 5} {
			wrong.Parent = -1
			within, ok := impl.Grafted(claim, at, []impl.Node{wrong})
			if !ok {
				t.Fatalf("%+v has no room", claim)
			}
			// In the Claim the prefix is declared, and one without an Id is passed over.
			if wrong.Name == "c:Claim" {
				wantSaid(t, within, 0, fullClaim())
			} else {
				wantUnsaid(t, within)
			}
		}
	}
	for _, letter := range wronglyNamed() {
		nodes, ok := impl.Grafted(letterTree(t, letter), 0, claim)
		if !ok {
			t.Fatalf("%q has no room", letter)
		}
		wantUnsaid(t, nodes)
	}
}

// claimBehind is a tree as the kid of the first Node of another, which has so many Nodes.
func claimBehind(claim []impl.Node, size int64) []impl.Node {
	out := slices.Clone(claim)
	for i := range out {
		out[i].Parent += size
	}
	out[0].Parent = 0
	return out
}

func TestIndexesWhereThereIsNoClaim(t *testing.T) {
	for _, nodes := range [][]impl.Node{impl.ClaimTree(fullClaim()), impl.ClaimTree(plainClaim()), letterTree(t, `<a>x</a>`), nil, {}} {
		size := int64(len(nodes))
		for _, at := range append(farNumbers(), -3, -2, -1, size, size+1, 49, 50, 51, 256, 1<<32, -1<<32, math.MinInt64, math.MaxInt64) {
			wantDecoded(t, nodes, at, impl.Claim{}, false)
		}
		for at, n := range nodes {
			if n.Name != "c:Claim" {
				wantDecoded(t, nodes, int64(at), impl.Claim{}, false)
			}
		}
	}
}

func strewnText(next func(int) int, signs string, most int) string {
	var out strings.Builder
	for range 1 + next(most) {
		out.WriteByte(signs[next(len(signs))])
	}
	return out.String()
}

// strewnClaim is right.
func strewnClaim(next func(int) int) impl.Claim {
	const ids, words = "abcxyz0189", "abzABZ019.@"
	c := impl.Claim{Id: strewnText(next, ids, 12), Issuer: strewnText(next, words, 20), Subject: strewnText(next, words, 20), For: strewnText(next, words, 20)}
	times := []int64{0, lastTime, int64(next(lastTime)), int64(next(86400))}
	c.From, c.To = times[next(4)], times[next(4)]
	if next(2) == 0 {
		c.Answers = strewnText(next, ids, 12)
	}
	for i := range next(5) {
		value := strings.Trim(strewnText(next, allPlain(), 30), " \n")
		c.Facts = append(c.Facts, impl.Attr{Name: idNumber(i) + strewnText(next, words, 10), Value: cmp.Or(value, ".")})
	}
	return c
}

// Promise 14: what a ClaimTree says is Decoded, also where it was written and read again, or put elsewhere.
func TestWhatAClaimTreeSaysIsDecoded(t *testing.T) {
	elsewhere := 0
	for seed := range 800 {
		next := dice(seed)
		c := strewnClaim(next)
		wantClaim(t, c, true)
		nodes := impl.ClaimTree(c)
		read, ok := impl.ReadTree(impl.ShowTree(nodes))
		if !ok || !sameTree(read, nodes) {
			t.Fatalf("%+v is read as %+v", nodes, read)
		}
		wantDecoded(t, read, 0, c, true)
		wantDecoded(t, shuffled(next, nodes), 0, c, true)
		if again, ok := impl.ReadTree(impl.CanonAll(nodes)); ok {
			wantDecoded(t, again, 0, c, true)
		}
		if other, ok := redeclared(next, nodes); ok {
			wantDecoded(t, other, 0, c, true)
		}
		house := meaningTree(seed)
		at := elementsOf(house)[next(len(elementsOf(house)))]
		if grafted, ok := impl.Grafted(house, at, nodes); ok && impl.NamesOk(grafted) && impl.IdsOk(grafted) {
			elsewhere++
			wantDecoded(t, grafted, impl.EndOf(house, at), c, true)
		}
		if t.Failed() {
			t.FailNow()
		}
	}
	if elsewhere < 150 {
		t.Errorf("only %d were put elsewhere", elsewhere)
	}
}

// spoiled is a tree with one thing changed of what Claims are read from.
func spoiled(next func(int) int, nodes []impl.Node) []impl.Node {
	out := slices.Clone(nodes)
	at := int64(next(len(out)))
	n := &out[at]
	n.Attrs = slices.Clone(n.Attrs)
	switch next(9) {
	case 0:
		less, _ := impl.Pruned(nodes, at)
		return less
	case 1:
		branch, _ := impl.Branch(nodes, at)
		more, _ := impl.Grafted(nodes, int64(next(2))*at, branch)
		return more
	case 2:
		wrapped, _ := impl.Wrapped(nodes, at, []string{"w", "c:Claim", "c:Subject"}[next(3)])
		return wrapped
	case 3, 4:
		if n.Name != "" {
			n.Name = []string{"c:Issuer", "c:Subject", "c:Term", "c:For", "c:Answers", "c:Fact", "Fact", "Claim", "x", "d:Subject"}[next(10)]
		}
	case 5:
		if len(n.Attrs) > 0 {
			n.Attrs[next(len(n.Attrs))].Value = []string{"", "claim", "x", "k9", "2000-01-01T00:00:00Z", "2000-02-30T00:00:00Z"}[next(6)]
		}
	case 6:
		if n.Name != "" {
			n.Attrs = append(n.Attrs, attrs([]string{"Id", "Name", "ns", "ns:c", "From", "To"}[next(6)], []string{"k9", "claim", "u"}[next(3)])...)
		}
	case 7:
		if len(n.Attrs) > 0 {
			gone := next(len(n.Attrs))
			n.Attrs = slices.Delete(n.Attrs, gone, gone+1)
		}
	default:
		if n.Name == "" {
			n.Text = []string{"x", " x", "x ", "X9.@", "a b", strings.Repeat("a", 20), strings.Repeat("a", 21), strings.Repeat("a", 31)}[next(8)]
		}
	}
	return out
}

// Whatever becomes of a Claim, it says what the words of the chapter tell, or nothing.
func TestSpoiledClaims(t *testing.T) {
	says, silent := 0, 0
	for seed := range 2500 {
		next := dice(seed)
		nodes := impl.ClaimTree(strewnClaim(next))
		if next(3) == 0 {
			nodes, _ = impl.Grafted(letterTree(t, `<a ns:c="claim" ns="claim" ns:d="claim"><b/></a>`), int64(next(2)), nodes)
		}
		for range 1 + next(3) {
			nodes = spoiled(next, nodes)
			if len(nodes) == 0 {
				break
			}
			if checkDecoded(t, nodes) > 0 {
				says++
			} else {
				silent++
			}
		}
	}
	if says < 600 || silent < 1200 {
		t.Errorf("%d say something, %d do not", says, silent)
	}
}

// layClaim lays each text of a Claim, and its Facts, ahead of spare room.
func layClaim(c impl.Claim) (impl.Claim, func(t *testing.T)) {
	words := []string{c.Id, c.Issuer, c.Subject, c.For, c.Answers}
	facts, factBuffers := layTexts([]impl.Token{{Attrs: c.Facts}})
	out, buffers := make([]string, len(words)), make([][]byte, len(words))
	for i, word := range words {
		out[i], buffers[i] = laid(word)
	}
	laidOne := impl.Claim{Id: out[0], Issuer: out[1], Subject: out[2], From: c.From, To: c.To, For: out[3], Answers: out[4], Facts: facts[0].Attrs}
	return laidOne, func(t *testing.T) {
		t.Helper()
		if !sameClaim(laidOne, c) {
			t.Errorf("the Claim %+v became %+v", c, laidOne)
		}
		buffersStay(t, words, buffers)
		buffersStay(t, layOrder([]impl.Token{{Attrs: c.Facts}}), factBuffers)
		attrsRoomStays(t, facts)
	}
}

// claimTokens hold all texts and lists of a Claim.
func claimTokens(c impl.Claim) []impl.Token {
	return []impl.Token{{Name: c.Id, Text: c.Issuer, Attrs: c.Facts}, {Name: c.Subject, Text: c.For}, {Text: c.Answers}}
}

// copiedClaim shares nothing with the one it is of.
func copiedClaim(c impl.Claim) impl.Claim {
	c.Facts = slices.Clone(c.Facts)
	return c
}

// Promise 21 for chapter 14.
func TestClaimAnswersAreNewMemoryAndArgumentsStay(t *testing.T) {
	claims := []impl.Claim{{}, plainClaim(), fullClaim(), {Id: "X", Facts: attrs("a", "b")}}
	// All of it is one text.
	same := impl.Claim{Id: "a", Issuer: "a", Subject: "a", For: "a", Answers: "a", Facts: attrs("a", "a", "b", "a")}
	for seed := range 60 {
		claims = append(claims, strewnClaim(dice(seed)))
	}
	for _, given := range append(claims, same) {
		c, stays := layClaim(copiedClaim(given))
		impl.ClaimOk(c)
		nodes, again := impl.ClaimTree(c), impl.ClaimTree(c)
		wantApart(t, "ClaimTree", nodeTokens(nodes), claimTokens(c))
		wantApart(t, "ClaimTree", nodeTokens(again), append(claimTokens(c), nodeTokens(nodes)...))
		if sharesRoom(nodes, again) {
			t.Errorf("ClaimTree tells one list twice: %+v", nodes)
		}
		stays(t)
		// What is then done to the tree does not reach the Claim.
		for i := range nodes {
			nodes[i].Text = "changed"
			for j := range nodes[i].Attrs {
				nodes[i].Attrs[j] = impl.Attr{Name: "changed", Value: "changed"}
			}
		}
		stays(t)
	}
	trees := append(memoryTrees(), letterTree(t, `<c:Claim ns:c="claim" Id="k1"/>`))
	for _, c := range append(claims[1:], same) {
		if nodes := claimNodes(c); impl.TreeOk(nodes) {
			trees = append(trees, nodes)
		}
	}
	told := 0
	for _, given := range trees {
		tree := layTree(given)
		for at := int64(-1); at <= int64(len(given)); at++ {
			c, ok := impl.Decoded(tree.nodes, at)
			again, _ := impl.Decoded(tree.nodes, at)
			if ok {
				told++
			}
			wantApart(t, "Decoded", claimTokens(c), nodeTokens(tree.nodes))
			wantApart(t, "Decoded", claimTokens(again), append(nodeTokens(tree.nodes), claimTokens(c)...))
			for i := range c.Facts {
				c.Facts[i] = impl.Attr{Name: "changed", Value: "changed"}
			}
		}
		tree.stays(t)
	}
	if told < 50 {
		t.Errorf("only %d Claims were told", told)
	}
}

// Promise 21 for chapter 14: an answer to whatever is given, and the same one each time.
func TestClaimFunctionsAnswerEverywhere(t *testing.T) {
	words := []string{"", "a", "k1", "A.@", " ", "\n", "a b", "\xff", "\x00", "-", strings.Repeat("a", 12), strings.Repeat("a", 13), strings.Repeat("a", 20), strings.Repeat("a", 21), strings.Repeat("a", 30), strings.Repeat("a", 31), strings.Repeat("a", 61)}
	right := 0
	for seed := range 20000 {
		next := dice(seed)
		// Mostly what is right, so that each thing comes to be the only wrong one.
		c := strewnClaim(next)
		for range next(3) {
			word := words[next(len(words))]
			switch next(8) {
			case 0:
				c.Id = word
			case 1:
				c.Issuer = word
			case 2:
				c.Subject = word
			case 3:
				c.For = word
			case 4:
				c.Answers = word
			case 5:
				c.Facts = append(c.Facts, impl.Attr{Name: word, Value: words[next(len(words))]})
			case 6:
				c.From = farNumber(next)
			case 7:
				c.To = farNumber(next)
			}
		}
		ok := expectedClaimOk(c)
		if ok {
			right++
		}
		wantClaim(t, c, ok)
		if t.Failed() {
			t.FailNow()
		}
	}
	if right < 5000 || right > 18000 {
		t.Errorf("%d were right", right)
	}
	for seed := range 8000 {
		next := dice(seed)
		nodes := anyNodes(next)
		for at := range nodes {
			if next(3) == 0 {
				nodes[at].Name = []string{"c:Claim", "Claim", "c:Issuer", "c:Term", "c:Fact"}[next(5)]
				nodes[at].Attrs = append(nodes[at].Attrs, attrs("ns:c", "claim", "Id", "k1")[next(2):]...)
			}
		}
		checkDecoded(t, nodes)
		far := farNumber(next)
		if got, ok := impl.Decoded(nodes, far); ok || !sameClaim(got, impl.Claim{}) {
			t.Errorf("Decoded(%+v, %d) = %+v, %v", nodes, far, got, ok)
		}
	}
}
