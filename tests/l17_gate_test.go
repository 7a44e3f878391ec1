package tests

import (
	"fmt"
	"math"
	"slices"
	"strings"
	"testing"

	"loop.example/g00379/impl"
)

func expectedHandsOk(list []impl.Hand) bool {
	issuers := map[string]int{}
	for _, h := range list {
		issuers[h.Issuer]++
		if issuers[h.Issuer] > 1 || !wholeWord.MatchString(h.Issuer) || !expectedKeyOk(h.Key) || h.Key.D != 0 {
			return false
		}
	}
	return len(list) <= 4
}

func expectedGateOk(g impl.Gate) bool {
	return wholeWord.MatchString(g.Name) && expectedHandsOk(g.Hands) && expectedTermOk(g.Skew, g.Now) && expectedTableOk(g.Asked) && expectedTableOk(g.Heard)
}

func expectedNewGate(name string, hands []impl.Hand, skew, most int64) (impl.Gate, bool) {
	g := impl.Gate{Name: name, Hands: hands, Skew: skew, Asked: impl.Table{Most: most}, Heard: impl.Table{Most: most}}
	if !expectedGateOk(g) {
		return impl.Gate{}, false
	}
	return g, true
}

func expectedTicked(g impl.Gate, by int64) (impl.Gate, bool) {
	if !expectedGateOk(g) {
		return impl.Gate{}, false
	}
	if by < 0 || by > lastTime {
		return g, false
	}
	g.Now = min(g.Now+by, lastTime)
	g.Asked, g.Heard = expectedSwept(g.Asked, g.Now), expectedSwept(g.Heard, g.Now)
	return g, true
}

func expectedAsks(g impl.Gate, id string, until int64) (impl.Gate, int64) {
	if !expectedGateOk(g) {
		return impl.Gate{}, 3
	}
	asked, code := expectedEntered(g.Asked, id, until)
	if code == 3 {
		return impl.Gate{}, 3
	}
	g.Asked = asked
	return g, code
}

// expectedLetter tells the tree of a letter, or a code from 1 to 4.
func expectedLetter(letters string) ([]impl.Node, int64) {
	text, ok := expectedFromLetters(letters)
	if !ok {
		return nil, 1
	}
	list, isList := expectedTokens(text)
	nodes, isTree := expectedGrown(list)
	if !isList || !isTree {
		return nil, 2
	}
	if !expectedNamesOk(nodes) {
		return nil, 3
	}
	if !expectedIdsOk(nodes) {
		return nil, 4
	}
	return nodes, 0
}

func expectedSealedThere(t []impl.Node, at int64, k impl.Key) bool {
	return slices.ContainsFunc(expectedSealsOf(t, at), func(seal int64) bool { return expectedSealedBy(t, seal, k) })
}

// expectedSaid tells the Claim of a letter's tree that one of the Hands has sealed, or a code from 5 to 8.
func expectedSaid(hands []impl.Hand, nodes []impl.Node) (impl.Claim, int64) {
	claims := expectedAllKnown(nodes, true, "Claim", "claim")
	if !expectedKnown(nodes, 0, "Letter", "claim") || len(claims) != 1 || nodes[claims[0]].Parent != 0 {
		return impl.Claim{}, 5
	}
	c, ok := expectedDecoded(nodes, claims[0])
	if !ok {
		return impl.Claim{}, 6
	}
	for _, h := range hands {
		if h.Issuer != c.Issuer {
			continue
		}
		if expectedSealedThere(nodes, claims[0], h.Key) || expectedSealedThere(nodes, 0, h.Key) {
			return c, 0
		}
		return impl.Claim{}, 8
	}
	return impl.Claim{}, 7
}

// expectedMeant tells a code from 9 to 13, or 0.
func expectedMeant(g impl.Gate, c impl.Claim) int64 {
	switch {
	case !expectedWithin(c.From, c.To, g.Now, g.Skew):
		return 9
	case c.For != g.Name:
		return 10
	case c.Answers != "" && !expectedHolds(g.Asked, c.Answers):
		return 11
	case expectedHolds(g.Heard, c.Id):
		return 12
	case int64(len(g.Heard.Rows)) == g.Heard.Most:
		return 13
	}
	return 0
}

// gateHaving is the Gate that has let this Claim in.
func gateHaving(g impl.Gate, c impl.Claim) impl.Gate {
	heard, asked := keptRows(g.Heard), keptRows(g.Asked)
	heard[c.Id] = min(c.To+g.Skew, lastTime)
	delete(asked, c.Answers)
	g.Heard, g.Asked = tableWith(g.Heard.Most, heard), tableWith(g.Asked.Most, asked)
	return g
}

func expectedConsumed(g impl.Gate, letters string) (impl.Gate, impl.Claim, int64) {
	if !expectedGateOk(g) {
		return impl.Gate{}, impl.Claim{}, 14
	}
	nodes, code := expectedLetter(letters)
	if code > 0 {
		return g, impl.Claim{}, code
	}
	c, code := expectedSaid(g.Hands, nodes)
	if code > 0 {
		return g, impl.Claim{}, code
	}
	if code = expectedMeant(g, c); code > 0 {
		return g, impl.Claim{}, code
	}
	return gateHaving(g, c), c, 0
}

func sameGate(a, b impl.Gate) bool {
	return a.Name == b.Name && slices.Equal(a.Hands, b.Hands) && a.Skew == b.Skew && a.Now == b.Now && sameTable(a.Asked, b.Asked) && sameTable(a.Heard, b.Heard)
}

func wantGateOk(t *testing.T, g impl.Gate, want bool) {
	t.Helper()
	if got := expectedGateOk(g); got != want {
		t.Errorf("of %+v the oracle says %v", g, got)
	}
	if impl.GateOk(g) != want {
		t.Errorf("GateOk(%+v) = %v", g, !want)
	}
}

func wantNewGate(t *testing.T, name string, hands []impl.Hand, skew, most int64, right bool) {
	t.Helper()
	want, ok := expectedNewGate(name, hands, skew, most)
	if ok != right {
		t.Errorf("of %q, %+v, %d, %d the oracle says %v", name, hands, skew, most, ok)
	}
	if g, is := impl.NewGate(name, hands, skew, most); is != right || !sameGate(g, want) || impl.GateOk(g) != right {
		t.Errorf("NewGate(%q, %+v, %d, %d) = %+v, %v", name, hands, skew, most, g, is)
	}
}

func wantTicked(t *testing.T, g impl.Gate, by int64, want impl.Gate, ok bool) {
	t.Helper()
	if got, is := impl.Ticked(g, by); is != ok || !sameGate(got, want) {
		t.Errorf("Ticked(%+v, %d) = %+v, %v, not %+v, %v", g, by, got, is, want, ok)
	}
}

func wantAsks(t *testing.T, g impl.Gate, id string, until int64, want impl.Gate, code int64) {
	t.Helper()
	if got, told := impl.Asks(g, id, until); told != code || !sameGate(got, want) {
		t.Errorf("Asks(%+v, %q, %d) = %+v, %d, not %+v, %d", g, id, until, got, told, want, code)
	}
}

func shownLetter(letters string) string {
	if text, ok := expectedFromLetters(letters); ok {
		return text
	}
	return letters
}

// wantJustConsumed asks the program alone: of letters that are made by thousands.
func wantJustConsumed(t *testing.T, g impl.Gate, letters string, want impl.Gate, claim impl.Claim, code int64) {
	t.Helper()
	if got, c, told := impl.Consumed(g, letters); told != code || !sameClaim(c, claim) || !sameGate(got, want) {
		t.Errorf("Consumed(%+v, %q) = %+v, %+v, %d, not %+v, %+v, %d", g, shownLetter(letters), got, c, told, want, claim, code)
	}
}

func wantConsumed(t *testing.T, g impl.Gate, letters string, want impl.Gate, claim impl.Claim, code int64) {
	t.Helper()
	if got, c, told := expectedConsumed(g, letters); told != code || !sameClaim(c, claim) || !sameGate(got, want) {
		t.Errorf("of %+v, %q the oracle says %+v, %+v, %d, not %d", g, shownLetter(letters), got, c, told, code)
	}
	wantJustConsumed(t, g, letters, want, claim, code)
}

// wantTurnedAway holds that nothing is changed by what is refused.
func wantTurnedAway(t *testing.T, g impl.Gate, letters string, code int64) {
	t.Helper()
	wantConsumed(t, g, letters, g, impl.Claim{}, code)
}

// wantLetIn holds all that is told of a letter that is let in, and that it is not let in again; it tells the Gate that is then.
func wantLetIn(t *testing.T, g impl.Gate, letters string, c impl.Claim) impl.Gate {
	t.Helper()
	has := gateHaving(g, c)
	wantGateOk(t, has, true)
	wantConsumed(t, g, letters, has, c, 0)
	again := int64(12)
	if c.Answers != "" {
		again = 11
	}
	wantTurnedAway(t, has, letters, again)
	return has
}

func hand(issuer string, k impl.Key) impl.Hand { return impl.Hand{Issuer: issuer, Key: publicKey(k)} }

// fourHands have a key each.
func fourHands() []impl.Hand {
	return []impl.Hand{hand("idp", houseKey), hand("two", thirdKey), hand("b@3.org", leastKey), hand("4", mostKey)}
}

// plainGate lets in what plainClaim and fullClaim say.
func plainGate() impl.Gate {
	return impl.Gate{Name: "gate", Hands: []impl.Hand{hand("idp", houseKey), hand("two", thirdKey)}, Skew: 60, Now: 150, Asked: table(4, "r1 500", "r2 500"), Heard: table(4, "a0 200")}
}

// eachWrongGate tells Gates of which one thing is not right, each by itself.
func eachWrongGate(do func(g impl.Gate)) {
	change := func(what func(g *impl.Gate)) {
		g := plainGate()
		what(&g)
		do(g)
	}
	for _, word := range noWords() {
		change(func(g *impl.Gate) { g.Name = word })
		change(func(g *impl.Gate) { g.Hands[0].Issuer = word })
		change(func(g *impl.Gate) { g.Hands[1].Issuer = word })
	}
	for _, k := range append(wrongKeys(), sealKeys()...) {
		change(func(g *impl.Gate) { g.Hands[0].Key = k })
		change(func(g *impl.Gate) { g.Hands[1].Key = k })
		change(func(g *impl.Gate) { g.Hands = []impl.Hand{{Issuer: "idp", Key: k}} })
	}
	change(func(g *impl.Gate) { g.Hands[1].Issuer = "idp" })
	change(func(g *impl.Gate) { g.Hands[0] = g.Hands[1] })
	change(func(g *impl.Gate) { g.Hands = append(fourHands(), hand("five", houseKey)) })
	for _, skew := range noSkews() {
		change(func(g *impl.Gate) { g.Skew = skew })
	}
	for _, now := range noTimes() {
		change(func(g *impl.Gate) { g.Now = now })
	}
	for _, b := range wrongTables() {
		change(func(g *impl.Gate) { g.Asked = b })
		change(func(g *impl.Gate) { g.Heard = b })
	}
}

func noWords() []string {
	return []string{
		"", " ", "\n", "a b", " gate", "gate ", "gate\n", "a-b", "a_b", "a:b", "a/b", "a&b", "<", "\"", "\x00", "a\x00", "\xff", "\u00e9", "a\tb", strings.Repeat("a", 21), strings.Repeat(".", 256+4), strings.Repeat("@", 65536+4),
	}
}

func wrongTables() []impl.Table {
	return []impl.Table{
		{}, table(0, "a 1"), table(-1), table(21), countedTable(21, 21), countedTable(1, 2), countedTable(20, 21), table(4, "A 1"), table(4, " 1"), table(4, "a -1"), table(4, "a 3155760000"), table(4, longestId+"0 1"),
		table(4, "b 1", "a 1"), table(4, "a 1", "a 1"), table(4, "r1 500", "r1 500"), {Most: math.MaxInt64}, {Most: math.MinInt64},
	}
}

// rightGates are right, each at some end of what is.
func rightGates() []impl.Gate {
	var list []impl.Gate
	change := func(what func(g *impl.Gate)) {
		g := plainGate()
		what(&g)
		list = append(list, g)
	}
	change(func(g *impl.Gate) {})
	for _, word := range []string{"a", "Z", "0", ".", "@", "azAZ09.@azAZ09.@azAZ", strings.Repeat("x", 20), "idp", "two"} {
		change(func(g *impl.Gate) { g.Name = word })
		change(func(g *impl.Gate) { g.Hands = []impl.Hand{hand(word, mostKey)} })
	}
	for count := range 5 {
		change(func(g *impl.Gate) { g.Hands = fourHands()[:count] })
	}
	change(func(g *impl.Gate) { g.Hands = []impl.Hand{} })
	// One key may be of two Issuers; which ones are unlike is told by each sign.
	change(func(g *impl.Gate) {
		g.Hands = []impl.Hand{hand("idp", houseKey), hand("Idp", houseKey), hand("idp.", houseKey), hand("id", houseKey)}
	})
	change(func(g *impl.Gate) { g.Hands = []impl.Hand{{Issuer: "idp", Key: impl.Key{N: minModulus, E: 3}}} })
	change(func(g *impl.Gate) {
		g.Hands = []impl.Hand{{Issuer: "idp", Key: impl.Key{N: maxModulus, E: maxModulus - 1}}}
	})
	for _, skew := range termSkews() {
		change(func(g *impl.Gate) { g.Skew = skew })
	}
	for _, now := range []int64{0, 1, 199, 200, 500, 1 << 31, lastTime - 1, lastTime} {
		change(func(g *impl.Gate) { g.Now = now })
	}
	for _, b := range []impl.Table{table(1), table(20), countedTable(20, 20), table(1, "a 0"), table(2, "a 3155759999", longestId+" 7")} {
		change(func(g *impl.Gate) { g.Asked = b })
		change(func(g *impl.Gate) { g.Heard = b })
	}
	return list
}

func TestGateNumbers(t *testing.T) {
	codes := []int64{
		impl.GtOk, impl.GtLetters, impl.GtTree, impl.GtNames, impl.GtIds, impl.GtShape, impl.GtClaim, impl.GtIssuer, impl.GtSeal, impl.GtTime, impl.GtFor, impl.GtAnswers, impl.GtHeard, impl.GtFull, impl.GtBad,
	}
	for want, code := range codes {
		if code != int64(want) {
			t.Errorf("the code %d is %d", want, code)
		}
	}
}

func TestGatesThatAreRight(t *testing.T) {
	for _, g := range rightGates() {
		wantGateOk(t, g, true)
		wantTicked(t, g, -1, g, false)
		wantTurnedAway(t, g, "?", impl.GtLetters)
	}
}

// Promise 17 of a Gate that is not right: none comes of it, and no letter is read.
func TestGatesThatAreNotRight(t *testing.T) {
	good := sentClaim(t, plainClaim(), "", houseKey)
	wantNoGate := func(g impl.Gate) {
		wantGateOk(t, g, false)
		for _, by := range []int64{0, 1, lastTime, -1, lastTime + 1, math.MinInt64} {
			wantTicked(t, g, by, impl.Gate{}, false)
		}
		for _, id := range []string{"r1", "r9", "", "R1"} {
			wantAsks(t, g, id, 500, impl.Gate{}, impl.TbBad)
			wantAsks(t, g, id, -1, impl.Gate{}, impl.TbBad)
		}
		for _, letters := range []string{good, "?", "", impl.ToLetters("<p:a/>"), impl.ToLetters("<a/>")} {
			wantConsumed(t, g, letters, impl.Gate{}, impl.Claim{}, impl.GtBad)
		}
	}
	wantLetIn(t, plainGate(), good, plainClaim())
	count := 0
	eachWrongGate(func(g impl.Gate) {
		count++
		wantNoGate(g)
	})
	if count < 200 {
		t.Errorf("only %d", count)
	}
	wantNoGate(impl.Gate{})
	wantNoGate(impl.Gate{Name: "-", Hands: slices.Repeat(fourHands(), 1000), Skew: -1, Now: -1})
	wantNoGate(impl.Gate{Name: "gate", Asked: table(1)})
	wantNoGate(impl.Gate{Name: "gate", Heard: table(1)})
	for count := range 8 {
		g := plainGate()
		g.Hands = nil
		for i := range count {
			g.Hands = append(g.Hands, hand(idNumber(i), houseKey))
		}
		wantGateOk(t, g, count <= 4)
		// Any two of one Issuer.
		for one := range count {
			for other := range one {
				wrong := g
				wrong.Hands = slices.Clone(g.Hands)
				wrong.Hands[one] = hand(wrong.Hands[other].Issuer, thirdKey)
				wantGateOk(t, wrong, false)
			}
		}
	}
}

func TestNewGates(t *testing.T) {
	for count := range 5 {
		for _, name := range []string{"gate", "a", strings.Repeat("@", 20)} {
			for _, skew := range termSkews() {
				for _, most := range []int64{1, 2, 19, 20} {
					wantNewGate(t, name, fourHands()[:count], skew, most, true)
				}
			}
		}
	}
	g, _ := impl.NewGate("gate", fourHands(), 60, 7)
	if g.Now != 0 || len(g.Asked.Rows) != 0 || len(g.Heard.Rows) != 0 || g.Asked.Most != 7 || g.Heard.Most != 7 || g.Name != "gate" || g.Skew != 60 || !slices.Equal(g.Hands, fourHands()) {
		t.Errorf("NewGate tells %+v", g)
	}
	wantNewGate(t, "gate", nil, 0, 1, true)
	wantNewGate(t, "gate", []impl.Hand{}, maxSkew, maxRows, true)
	// The Gates that are wrong in what NewGate is told.
	eachWrongGate(func(g impl.Gate) {
		if expectedTermOk(0, g.Now) && expectedTableOk(g.Asked) && expectedTableOk(g.Heard) {
			wantNewGate(t, g.Name, g.Hands, g.Skew, 4, false)
		}
	})
	for most := int64(-25); most <= 45; most++ {
		wantNewGate(t, "gate", fourHands(), 60, most, most >= 1 && most <= 20)
	}
	for _, most := range append(farNumbers(), math.MinInt64+4, 1<<32+4, -1<<32+4, 1<<62+4) {
		wantNewGate(t, "gate", fourHands(), 60, most, false)
	}
	for length := range 45 {
		for _, sign := range []string{"a", "Z", "0", ".", "@", "-"} {
			word := strings.Repeat(sign, length)
			right := length >= 1 && length <= 20 && sign != "-"
			wantNewGate(t, word, fourHands(), 60, 4, right)
			wantNewGate(t, "gate", []impl.Hand{hand("idp", houseKey), hand(word, thirdKey)}, 60, 4, right)
		}
	}
	for b := range 256 {
		right := strings.Contains("abcdefghijklmnopqrstuvwxyzABCDEFGHIJKLMNOPQRSTUVWXYZ0123456789.@", oneByte(b))
		wantNewGate(t, "x"+oneByte(b), nil, 60, 4, right)
		wantNewGate(t, "gate", []impl.Hand{hand(oneByte(b), houseKey)}, 60, 4, right)
	}
	wantNewGate(t, "", append(fourHands(), fourHands()...), -1, 0, false)
}

func TestTickedByLittleAndByMuch(t *testing.T) {
	// At 150, of Asked one is of no more use already, of Heard none.
	g := plainGate()
	g.Asked, g.Heard = table(4, "a 150", "b 151", "c 300", "d 9999"), table(5, "a 151", "b 160", "c 300", "e 3155759999")
	for _, c := range []struct {
		by           int64
		now          int64
		asked, heard impl.Table
	}{
		{0, 150, table(4, "b 151", "c 300", "d 9999"), g.Heard},
		{1, 151, table(4, "c 300", "d 9999"), table(5, "b 160", "c 300", "e 3155759999")},
		{9, 159, table(4, "c 300", "d 9999"), table(5, "b 160", "c 300", "e 3155759999")},
		{10, 160, table(4, "c 300", "d 9999"), table(5, "c 300", "e 3155759999")},
		{149, 299, table(4, "c 300", "d 9999"), table(5, "c 300", "e 3155759999")},
		{150, 300, table(4, "d 9999"), table(5, "e 3155759999")},
		{9849, 9999, table(4), table(5, "e 3155759999")},
		{lastTime - 151, lastTime - 1, table(4), table(5, "e 3155759999")},
		{lastTime - 150, lastTime, table(4), table(5)},
		// Past the last time there is none.
		{lastTime - 149, lastTime, table(4), table(5)}, {lastTime - 1, lastTime, table(4), table(5)}, {lastTime, lastTime, table(4), table(5)},
	} {
		want := g
		want.Now, want.Asked, want.Heard = c.now, c.asked, c.heard
		wantTicked(t, g, c.by, want, true)
	}
	// In one table alone.
	g.Heard = table(1)
	want := g
	want.Now, want.Asked = 300, table(4, "d 9999")
	wantTicked(t, g, 150, want, true)
	g.Asked, g.Heard = g.Heard, g.Asked
	want.Asked, want.Heard = want.Heard, want.Asked
	wantTicked(t, g, 150, want, true)
	for _, g := range rightGates() {
		for _, by := range append(tableTimes(g.Asked), 0, 1, lastTime-g.Now, min(lastTime, lastTime-g.Now+1)) {
			want, ok := expectedTicked(g, by)
			wantGateOk(t, want, true)
			wantTicked(t, g, by, want, ok)
		}
	}
}

func TestTickedByWhatIsOutOfRange(t *testing.T) {
	for _, g := range append(rightGates(), impl.Gate{Name: "x", Now: lastTime, Asked: table(1, "a 0"), Heard: table(1, "a 0")}) {
		for _, by := range append(noTimes(), -g.Now, -g.Now-1, lastTime+1, math.MinInt64-(-g.Now), math.MaxInt64-g.Now) {
			if by != 0 {
				// Neither of its Tables is swept.
				wantTicked(t, g, by, g, false)
			}
		}
		for _, by := range farNumbers() {
			want, ok := expectedTicked(g, by)
			wantTicked(t, g, by, want, ok)
		}
	}
}

func TestTickedOnAndOn(t *testing.T) {
	for _, step := range []int64{1, 7, 60, 86400, lastTime / 3, lastTime} {
		g, _ := impl.NewGate("gate", nil, 0, 4)
		g = mustAsk(t, g, "a", min(lastTime, 3*step))
		g.Heard = table(4, "b "+fmt.Sprint(min(lastTime, 2*step)))
		for i := int64(1); i <= 5; i++ {
			var ok bool
			g, ok = impl.Ticked(g, step)
			if !ok || g.Now != min(lastTime, i*step) || !impl.GateOk(g) || impl.Holds(g.Asked, "a") != (min(lastTime, 3*step) > g.Now) || impl.Holds(g.Heard, "b") != (min(lastTime, 2*step) > g.Now) {
				t.Fatalf("at %d by %d: %+v, %v", i, step, g, ok)
			}
		}
	}
}

func TestAsksOfIds(t *testing.T) {
	g := plainGate()
	with := func(rows ...string) impl.Gate {
		out := g
		out.Asked = table(4, rows...)
		return out
	}
	for _, c := range []struct {
		id    string
		until int64
		want  impl.Gate
		code  int64
	}{
		{"r3", 200, with("r1 500", "r2 500", "r3 200"), 0}, {"a", 0, with("a 0", "r1 500", "r2 500"), 0}, {"r10", lastTime, with("r1 500", "r10 3155759999", "r2 500"), 0}, {longestId, 150, with(longestId+" 150", "r1 500", "r2 500"), 0},
		// What Heard holds is another thing.
		{"a0", 200, with("a0 200", "r1 500", "r2 500"), 0},
		{"r1", 500, g, 1}, {"r1", 0, g, 1}, {"r2", lastTime, g, 1},
		{"r1", -1, impl.Gate{}, 3}, {"r3", lastTime + 1, impl.Gate{}, 3}, {"", 500, impl.Gate{}, 3}, {"R3", 500, impl.Gate{}, 3}, {longestId + "0", 500, impl.Gate{}, 3},
	} {
		wantAsks(t, g, c.id, c.until, c.want, c.code)
	}
	for _, g := range rightGates() {
		for _, id := range append(noIds(), "r1", "r2", "r0", "zz", "c10", "a", longestId) {
			for _, until := range append(noTimes(), 0, g.Now, 500, lastTime) {
				want, code := expectedAsks(g, id, until)
				wantAsks(t, g, id, until, want, code)
			}
		}
	}
	// Up to the most, and no further.
	for most := int64(1); most <= maxRows; most++ {
		g := plainGate()
		g.Asked = table(most)
		for i := range most {
			next, code := impl.Asks(g, fmt.Sprintf("c%02d", 10+i), 100+i)
			if code != impl.TbOk || !impl.GateOk(next) {
				t.Fatalf("Asks of %d: %+v, %d", i, next, code)
			}
			g = next
		}
		if !sameTable(g.Asked, countedTable(most, int(most))) || !sameTable(g.Heard, plainGate().Heard) {
			t.Errorf("after %d it is %+v", most, g)
		}
		wantAsks(t, g, "c9", 500, g, impl.TbFull)
		wantAsks(t, g, "c10", 500, g, impl.TbThere)
		wantAsks(t, g, "c9", -1, impl.Gate{}, impl.TbBad)
		wantAsks(t, g, "C9", 500, impl.Gate{}, impl.TbBad)
	}
}

// letterNodes are a Letter, whose Id may be empty, that has a Claim.
func letterNodes(c impl.Claim, id string) []impl.Node {
	first := element(-1, "l:Letter", "ns:l", "claim")
	if id != "" {
		first.Attrs = append(first.Attrs, impl.Attr{Name: "Id", Value: id})
	}
	return append([]impl.Node{first}, claimBehind(claimNodes(c), 1)...)
}

func sentNodes(nodes []impl.Node) string { return impl.ToLetters(impl.ShowTree(nodes)) }

// sentClaim is a letter that was made as it should be: sealed outside, where the Letter has an Id, else at the Claim alone.
func sentClaim(t *testing.T, c impl.Claim, id string, k impl.Key) string {
	t.Helper()
	at := int64(1)
	if id != "" {
		at = 0
	}
	sealed, _ := sealedTree(t, letterNodes(c, id), at, k)
	return sentNodes(sealed)
}

// Sums and Signs of these were worked out apart from the program.
func TestLettersWorkedOutApart(t *testing.T) {
	const inner = `<l:Letter ns:l="claim"><c:Claim ns:c="claim" Id="k1"><c:Issuer>idp</c:Issuer><c:Subject>ann</c:Subject><c:Term From="2000-01-01T00:01:40Z" To="2000-01-01T00:03:20Z"></c:Term><c:For>gate</c:For><s:Seal ns:s="seal" Ref="k1" Sum="0248290203" Sign="1508282063"></s:Seal></c:Claim></l:Letter>`
	const outer = `<l:Letter ns:l="claim" Id="m1"><c:Claim ns:c="claim" Id="k1"><c:Issuer>idp</c:Issuer><c:Subject>ann</c:Subject><c:Term From="2000-01-01T00:01:40Z" To="2000-01-01T00:03:20Z"></c:Term><c:For>gate</c:For><c:Answers>r1</c:Answers></c:Claim><s:Seal ns:s="seal" Ref="m1" Sum="1980365782" Sign="0696544287"></s:Seal></l:Letter>`
	const letters = "PGw6TGV0dGVyIG5zOmw9ImNsYWltIj48YzpDbGFpbSBuczpjPSJjbGFpbSIgSWQ9ImsxIj48YzpJc3N1ZXI+aWRwPC9jOklzc3Vlcj48YzpTdWJqZWN0PmFubjwvYzpTdWJqZWN0PjxjOlRlcm0gRnJvbT0iMjAwMC0wMS0wMVQwMDowMTo0MFoiIFRvPSIyMDAwLTAxLTAxVDAwOjAzOjIwWiI+PC9jOlRlcm0+PGM6Rm9yPmdhdGU8L2M6Rm9yPjxzOlNlYWwgbnM6cz0ic2VhbCIgUmVmPSJrMSIgU3VtPSIwMjQ4MjkwMjAzIiBTaWduPSIxNTA4MjgyMDYzIj48L3M6U2VhbD48L2M6Q2xhaW0+PC9sOkxldHRlcj4="
	answering := plainClaim()
	answering.Answers = "r1"
	if letters != impl.ToLetters(inner) || letters != sentClaim(t, plainClaim(), "", houseKey) || impl.ToLetters(outer) != sentClaim(t, answering, "m1", houseKey) {
		t.Error("a letter is made otherwise")
	}
	g := plainGate()
	in := wantLetIn(t, g, letters, plainClaim())
	if !sameTable(in.Heard, table(4, "a0 200", "k1 260")) || !sameTable(in.Asked, g.Asked) {
		t.Errorf("the Gate is then %+v", in)
	}
	in = wantLetIn(t, g, impl.ToLetters(outer), answering)
	if !sameTable(in.Heard, table(4, "a0 200", "k1 260")) || !sameTable(in.Asked, table(4, "r2 500")) {
		t.Errorf("the Gate is then %+v", in)
	}
	// One digit of them is another.
	for _, c := range [][2]string{{"0248290203", "0248290204"}, {"1508282063", "1508282064"}, {"1508282063", "0000000000"}, {`Ref="k1"`, `Ref="k2"`}, {">ann<", ">bob<"}, {"200", "201"}, {"T00:03:20Z", "T23:59:59Z"}} {
		for _, text := range []string{inner, outer} {
			if changed := strings.Replace(text, c[0], c[1], 1); changed != text {
				wantTurnedAway(t, g, impl.ToLetters(changed), impl.GtSeal)
			}
		}
	}
}

// Each Hand's own Claims are let in, sealed in each way, with Answers and without.
func TestLettersAsTheyShouldBe(t *testing.T) {
	g := plainGate()
	g.Hands = fourHands()
	for i, h := range fourHands() {
		for _, c := range []impl.Claim{plainClaim(), fullClaim()} {
			c.Issuer = h.Issuer
			for _, id := range []string{"", "m1", longestId, "r1", "a0"} {
				letters := sentClaim(t, c, id, sealKeys()[i])
				wantLetIn(t, g, letters, c)
				// No other Hand's Key does, whoever has it, nor any where the Hand is not there.
				for j := range 4 {
					other := g
					other.Hands = slices.Clone(g.Hands)
					other.Hands[i].Key, other.Hands[j].Key = other.Hands[j].Key, other.Hands[i].Key
					if i == j {
						other.Hands = slices.Delete(other.Hands, i, i+1)
						wantTurnedAway(t, other, letters, impl.GtIssuer)
					} else {
						wantTurnedAway(t, other, letters, impl.GtSeal)
					}
				}
				for _, order := range [][]int{{3, 2, 1, 0}, {i}, {(i + 1) % 4, i}} {
					other := g
					other.Hands = nil
					for _, at := range order {
						other.Hands = append(other.Hands, g.Hands[at])
					}
					wantLetIn(t, other, letters, c)
				}
			}
		}
	}
	g.Hands = nil
	wantTurnedAway(t, g, sentClaim(t, plainClaim(), "", houseKey), impl.GtIssuer)
}

// besides stand in a Letter beside its Claim, and say nothing.
func besides() []string {
	return []string{
		"x", " ", "<!-- r -->", "<x/>", `<l:x/>`, `<x Id="m2">y<z/></x>`, `<l:Letter/>`, `<l:Issuer>other</l:Issuer>`, `<l:Subject>eve</l:Subject>`, `<Claim/>`, `<Claim Id="k2"/>`, `<l:claim/>`, `<c:Claim ns:c="other" Id="k2"><c:Subject>eve</c:Subject></c:Claim>`, `<Claim ns="claims"/>`,
		someSeal, `<s:Seal ns:s="seal" Ref="k1" Sum="0000000001" Sign="0000000002"/>`, `<s:Seal ns:s="seal" Ref="k1" Sum="0248290203" Sign="1508282063"/>`, `<s:Seal ns:s="seal"/>`, `<x ns="claim"/>`, `<x ns:c="u" ns="v"/>`,
	}
}

func TestLettersWithMoreBeside(t *testing.T) {
	g := plainGate()
	for _, c := range []impl.Claim{plainClaim(), fullClaim()} {
		sealed, _ := sealedTree(t, letterNodes(c, ""), 1, houseKey)
		claim := strings.TrimSuffix(strings.TrimPrefix(impl.ShowTree(sealed), `<l:Letter ns:l="claim">`), `</l:Letter>`)
		for _, more := range besides() {
			for _, text := range []string{claim + more, more + claim, more + claim + strings.ReplaceAll(strings.ReplaceAll(more, ` Id="m2"`, ``), ` Id="k2"`, ``)} {
				wantLetIn(t, g, impl.ToLetters(`<l:Letter ns:l="claim">`+text+`</l:Letter>`), c)
			}
			// Within what is sealed it is one thing too much.
			within := strings.Replace(claim, "</c:Subject>", "</c:Subject>"+more, 1)
			letters := impl.ToLetters(`<l:Letter ns:l="claim">` + within + `</l:Letter>`)
			want, said, code := expectedConsumed(g, letters)
			if (code == 0) != (more == "<!-- r -->") {
				t.Errorf("%q: %d", more, code)
			}
			wantConsumed(t, g, letters, want, said, code)
		}
		// Whoever puts it there may seal the Letter too, or name it otherwise.
		for _, first := range []string{`<l:Letter ns:l="claim" Id="m1">`, `<l:Letter ns:l="claim" x="y" ns="u" ns:c="v">`, `<l:Letter ns:l="claim" l:Id="k1">`} {
			wantLetIn(t, g, impl.ToLetters(first+claim+`</l:Letter>`), c)
		}
		wantLetIn(t, g, impl.ToLetters(`<Letter ns="claim">`+claim+`</Letter>`), c)
		wantLetIn(t, g, impl.ToLetters(`<c:Letter ns:c="claim">`+claim+`</c:Letter>`), c)
		wantLetIn(t, g, impl.ToLetters(`<l:Letter ns:l="claim"><!-- a -->`+strings.ReplaceAll(claim, "></c:Term>", "/>")+`<!--b--></l:Letter>`), c)
	}
}

// What means the same is written the same: so it is let in.
func TestLettersWrittenOtherwise(t *testing.T) {
	g, count := plainGate(), 0
	for seed := range 60 {
		next := dice(seed)
		c := []impl.Claim{plainClaim(), fullClaim()}[seed%2]
		sealed, _ := sealedTree(t, letterNodes(c, "m1"), int64(seed/2%2), houseKey)
		others := [][]impl.Node{shuffled(next, sealed)}
		if other, ok := redeclared(next, sealed); ok {
			others = append(others, other, shuffled(next, other))
		}
		for _, other := range others {
			// A letter may grow too long.
			if len(impl.ShowTree(other)) <= 4000 {
				count++
				wantLetIn(t, g, sentNodes(other), c)
			}
		}
	}
	if count < 100 {
		t.Errorf("only %d", count)
	}
}

// withGraft lays a branch, written as a letter, into a tree.
func withGraft(t *testing.T, nodes []impl.Node, at int64, branch string) []impl.Node {
	t.Helper()
	out, ok := impl.Grafted(nodes, at, letterTree(t, branch))
	if !ok {
		t.Fatalf("%q is not grafted at %d of %+v", branch, at, nodes)
	}
	return out
}

func without(t *testing.T, nodes []impl.Node, at int64) []impl.Node {
	t.Helper()
	out, ok := impl.Pruned(nodes, at)
	if !ok {
		t.Fatalf("%d of %+v is not pruned", at, nodes)
	}
	return out
}

// faultyLetter is a letter, and the Gate it comes to, of which all these codes might be told: with each one by itself that one, with none of them 0.
func faultyLetter(t *testing.T, outer bool, has func(code int64) bool) (impl.Gate, string) {
	t.Helper()
	g, c, k := plainGate(), fullClaim(), houseKey
	if has(impl.GtIssuer) {
		c.Issuer = "nobody"
	}
	if has(impl.GtSeal) {
		k = thirdKey
	}
	if has(impl.GtTime) {
		c.To = 90
	}
	if has(impl.GtFor) {
		c.For = "other"
	}
	if has(impl.GtAnswers) {
		c.Answers = "r9"
	}
	g.Heard = table(2, "a0 200")
	switch {
	case has(impl.GtHeard) && has(impl.GtFull):
		g.Heard = table(2, "a0 200", "k1 200")
	case has(impl.GtHeard):
		g.Heard = table(3, "a0 200", "k1 200")
	case has(impl.GtFull):
		g.Heard = table(2, "a0 200", "k2 200")
	}
	nodes := letterNodes(c, "m1")
	if has(impl.GtShape) {
		nodes[0].Name = "l:Parcel"
	}
	if has(impl.GtClaim) {
		// Without the Subject and what it says.
		nodes = without(t, nodes, 4)
	}
	at := int64(1)
	if outer {
		at = 0
	}
	if has(impl.GtIds) {
		nodes = withGraft(t, nodes, 0, `<x/>`)
	}
	if has(impl.GtNames) {
		nodes = withGraft(t, nodes, 0, `<y/>`)
	}
	nodes, _ = sealedTree(t, nodes, at, k)
	text := impl.ShowTree(nodes)
	if has(impl.GtIds) {
		text = strings.Replace(text, `<x>`, `<x Id="m1">`, 1)
	}
	if has(impl.GtNames) {
		text = strings.Replace(text, `<y>`, `<y p:q="">`, 1)
	}
	if has(impl.GtTree) {
		text = strings.TrimSuffix(text, ">")
	}
	letters := impl.ToLetters(text)
	if has(impl.GtLetters) {
		letters += "?"
	}
	return g, letters
}

func TestEachCodeByItself(t *testing.T) {
	for _, outer := range []bool{false, true} {
		g, letters := faultyLetter(t, outer, func(int64) bool { return false })
		wantLetIn(t, g, letters, fullClaim())
		for code := int64(1); code <= 13; code++ {
			g, letters := faultyLetter(t, outer, func(other int64) bool { return other == code })
			wantTurnedAway(t, g, letters, code)
		}
	}
}

// Where several things are not so it is the one named first, whatever else there is.
func TestTheCodeNamedFirst(t *testing.T) {
	for _, outer := range []bool{false, true} {
		for first := int64(1); first <= 13; first++ {
			for second := first + 1; second <= 13; second++ {
				g, letters := faultyLetter(t, outer, func(code int64) bool { return code == first || code == second })
				wantTurnedAway(t, g, letters, first)
			}
		}
		for faults := 1; faults < 1<<13; faults += 3 {
			g, letters := faultyLetter(t, outer, func(code int64) bool { return faults>>(code-1)&1 == 1 })
			first := int64(1)
			for faults>>(first-1)&1 == 0 {
				first++
			}
			wantJustConsumed(t, g, letters, g, impl.Claim{}, first)
			g.Skew = -1
			wantJustConsumed(t, g, letters, impl.Gate{}, impl.Claim{}, impl.GtBad)
			if t.Failed() {
				t.FailNow()
			}
		}
	}
}

func TestLettersThatAreNone(t *testing.T) {
	good := sentClaim(t, plainClaim(), "", houseKey)
	for _, letters := range []string{
		"?", "Q", "QQ", "QQ=", "QQQ", "Q===", "=", "==", "====", "QR==", "QQJ=", "QQ==QQ==", "QQ==\n", "\n", " ", "-_-_", "\x00", "\xff\xff\xff\xff", "\u00e9", "<a/>", "<l:Letter ns:l=\"claim\"/>",
		good[1:], good[:len(good)-1], good + "=", good + "\n", " " + good, good + "A", good[:40] + " " + good[40:], good[:40] + "\n" + good[40:], strings.ToUpper(good) + "-", strings.Repeat("A", 1<<16) + "?",
	} {
		wantTurnedAway(t, plainGate(), letters, impl.GtLetters)
	}
	wantLetIn(t, plainGate(), good, plainClaim())
}

func TestLettersThatAreNoTree(t *testing.T) {
	sealed, _ := sealedTree(t, letterNodes(plainClaim(), ""), 1, houseKey)
	good := impl.ShowTree(sealed)
	room := 4000 - len(good) - len("<!---->")
	// As long as may be, and one sign longer.
	for _, c := range []struct {
		remark int
		code   int64
	}{{room, 0}, {room + 1, 2}, {room + 1000, 2}} {
		letters := impl.ToLetters(good + "<!--" + strings.Repeat("r", c.remark) + "-->")
		if c.code == 0 {
			wantLetIn(t, plainGate(), letters, plainClaim())
		} else {
			wantTurnedAway(t, plainGate(), letters, c.code)
		}
	}
	for _, text := range []string{
		"", " ", "A", "\x00", "\xff", "<a>", "</a>", "<a></b>", "<a/><b/>", "x<a/>", "<a/>x", "<a x=\"1\" x=\"2\"/>", "<a>&x;</a>", "<!-- r -->", "<a>" + strings.Repeat("<b/>", 50) + "</a>", strings.Repeat("<a>", 10) + strings.Repeat("</a>", 10), "<a>" + strings.Repeat("x", 61) + "</a>",
		good + good, good[1:], good[:len(good)-1], "x" + good, good + "x", "\t" + good, good + "\r", "<x>" + good, good + "</x>", strings.Replace(good, "<c:For>", "<c:For", 1), strings.Replace(good, "ann", "an\xe9", 1),
	} {
		wantTurnedAway(t, plainGate(), impl.ToLetters(text), impl.GtTree)
	}
}

func TestLettersOfWrongNamesOrIds(t *testing.T) {
	sealed, _ := sealedTree(t, letterNodes(plainClaim(), "m1"), 1, houseKey)
	good := strings.TrimSuffix(impl.ShowTree(sealed), `</l:Letter>`)
	wantLetIn(t, plainGate(), impl.ToLetters(good+`</l:Letter>`), plainClaim())
	for _, more := range []string{`<p:x/>`, `<c:x/>`, `<x p:y=""/>`, `<x ns:p=""/>`, `<x ns="CLAIM"/>`, `<ns:x/>`, `<x ns:a="u" ns:b="u" a:y="" b:y=""/>`, `<x Id="X" p:y=""/>`, `<x><y><p:z/></y></x>`} {
		wantTurnedAway(t, plainGate(), impl.ToLetters(good+more+`</l:Letter>`), impl.GtNames)
	}
	for _, more := range []string{`<x Id=""/>`, `<x Id="k1"/>`, `<x Id="m1"/>`, `<x Id="X"/>`, `<x Id="aaaaaaaaaaaaa"/>`, `<x Id="a b"/>`, `<x Id="m2"/><y Id="m2"/>`, `<x><y Id="-"/></x>`} {
		wantTurnedAway(t, plainGate(), impl.ToLetters(good+more+`</l:Letter>`), impl.GtIds)
	}
	for _, c := range []struct {
		letter string
		code   int64
	}{
		{`<p:a/>`, 3}, {`<l:Letter/>`, 3}, {`<l:Letter ns:l="Claim"/>`, 3}, {`<ns:Letter ns:ns="claim"/>`, 3}, {`<a Id="X"/>`, 4}, {`<a Id="a"><b Id="a"/></a>`, 4}, {`<a Id=""/>`, 4}, {`<p:a Id="X"/>`, 3}, {`<a/>`, 5},
	} {
		wantTurnedAway(t, plainGate(), impl.ToLetters(c.letter), c.code)
	}
}

func TestLettersOfAnotherShape(t *testing.T) {
	sealed, _ := sealedTree(t, letterNodes(plainClaim(), ""), 1, houseKey)
	alone, _ := impl.Branch(sealed, 1)
	claim := impl.ShowTree(alone)
	in := func(around string) string {
		return strings.Replace(`<l:Letter ns:l="claim">`+around+`</l:Letter>`, "%", claim, 1)
	}
	for _, letter := range []string{
		// The first is no Letter.
		claim, `<Letter>` + claim + `</Letter>`, `<l:letter ns:l="claim">` + claim + `</l:letter>`, `<l:Letters ns:l="claim">` + claim + `</l:Letters>`, `<l:Letter ns:l="claims">` + claim + `</l:Letter>`, `<l:Letter ns:l="seal">` + claim + `</l:Letter>`,
		`<x><l:Letter ns:l="claim">` + claim + `</l:Letter></x>`, `<Letter ns:l="claim">` + claim + `</Letter>`, `<l:Claim ns:l="claim">` + claim + `</l:Claim>`, `<l:x ns:l="claim">` + claim + `</l:x>`,
		// There is no Claim, or none that is known.
		in(""), in("x"), in("<x/>"), in(`<Claim Id="k1"/>`), in(`<l:claim/>`), in(`<c:Claim ns:c="other" Id="k1"/>`), in(`<l:Letter/>`), in(`<s:Seal ns:s="seal" Ref="k1" Sum="0000000001" Sign="0000000002"/>`),
		// There are two, or more, wherever the others stand and whatever they say.
		in(`%<l:Claim/>`), in(`<l:Claim/>%`), in(`%<l:Claim Id="k2"/>`), in(`%<x><l:Claim/></x>`), in(`<x><y><l:Claim Id="k2"/></y></x>%`), in(`%<Claim ns="claim"/>`), in(`<l:Claim>%</l:Claim>`), in(`<l:Claim Id="k2">%</l:Claim>`), in(`<l:Claim/><l:Claim/>%`), in(`<l:Claim/><l:Claim/>`),
		strings.Replace(in(`%`), `</c:Claim>`, `<c:Claim/></c:Claim>`, 1), strings.Replace(in(`%`), `</c:Subject>`, `<c:Claim/></c:Subject>`, 1),
		// One, but further in.
		in(`<x>%</x>`), in(`<l:Letter>%</l:Letter>`), in(`<l:x><l:y>%</l:y></l:x>`), in(`<x/>y<x>z%</x>`), in(`<x><l:Claim/></x>`),
	} {
		wantTurnedAway(t, plainGate(), impl.ToLetters(letter), impl.GtShape)
	}
	wantLetIn(t, plainGate(), impl.ToLetters(in("%")), plainClaim())
}

// sealedAnyway is a letter of a Claim that is to be sealed, right or not.
func sealedAnyway(t *testing.T, claim string, k impl.Key) string {
	t.Helper()
	nodes := withGraft(t, letterTree(t, `<l:Letter ns:l="claim" Id="m1"/>`), 0, claim)
	nodes, _ = sealedTree(t, nodes, 0, k)
	return sentNodes(nodes)
}

func TestClaimsThatAreNotDecoded(t *testing.T) {
	full := fullKids()
	wantLetIn(t, plainGate(), sealedAnyway(t, claimBy(full...), houseKey), fullClaim())
	for gone := range 4 {
		wantTurnedAway(t, plainGate(), sealedAnyway(t, claimBy(slices.Delete(fullKids(), gone, gone+1)...), houseKey), impl.GtClaim)
	}
	for twice := range 6 {
		wantTurnedAway(t, plainGate(), sealedAnyway(t, claimBy(append(fullKids(), full[twice])...), houseKey), impl.GtClaim)
	}
	for _, claim := range []string{
		`<c:Claim ns:c="claim"/>`, `<c:Claim ns:c="claim" Id="k1"/>`, strings.Replace(claimBy(full...), ` Id="k1"`, ``, 1), strings.Replace(claimBy(full...), ` Id=`, ` id=`, 1), claimBy(append(plainKids(), `<c:Answers/>`)...), claimBy(append(plainKids(), `<c:Answers>R1</c:Answers>`)...),
		claimBy(append(plainKids(), `<c:Fact>x</c:Fact>`)...), claimBy(append(plainKids(), `<c:Fact Name="a"/>`)...), strings.Replace(claimBy(full...), "idp", "i dp", 1), strings.Replace(claimBy(full...), "ann", "", 1), strings.Replace(claimBy(full...), "01T00:01:40Z", "32T00:01:40Z", 1), strings.Replace(claimBy(full...), "gate", "-", 1),
		`<c:Claim ns:c="claim" Id="k1"><x>` + strings.Join(plainKids(), "") + `</x></c:Claim>`,
	} {
		wantTurnedAway(t, plainGate(), sealedAnyway(t, claim, houseKey), impl.GtClaim)
		// Whoever sealed it.
		wantTurnedAway(t, plainGate(), sealedAnyway(t, claim, mostKey), impl.GtClaim)
	}
}

func TestClaimsOfNoHand(t *testing.T) {
	for _, issuer := range []string{"nobody", "IDP", "idp.", "id", "idpp", "gate", "ann", "3", strings.Repeat("i", 20)} {
		c := plainClaim()
		c.Issuer = issuer
		for _, k := range sealKeys() {
			wantTurnedAway(t, plainGate(), sentClaim(t, c, "", k), impl.GtIssuer)
			wantTurnedAway(t, plainGate(), sentClaim(t, c, "m1", k), impl.GtIssuer)
		}
	}
}

// Seals that are not that Hand's, or not on what is said.
func TestClaimsThatAreNotSealed(t *testing.T) {
	g, c := plainGate(), fullClaim()
	away := func(nodes []impl.Node) {
		t.Helper()
		wantTurnedAway(t, g, sentNodes(nodes), impl.GtSeal)
	}
	bare := letterNodes(c, "m1")
	away(bare)
	for _, k := range []impl.Key{thirdKey, leastKey, mostKey} {
		for at := range int64(2) {
			nodes, _ := sealedTree(t, bare, at, k)
			away(nodes)
		}
	}
	inner, seal := sealedTree(t, bare, 1, houseKey)
	outer, outerSeal := sealedTree(t, bare, 0, houseKey)
	// Where the seal stood there is none: it is gone, or elsewhere, or wrapped.
	for _, sealed := range []struct {
		nodes []impl.Node
		at    int64
	}{{inner, seal}, {outer, outerSeal}} {
		less := without(t, sealed.nodes, sealed.at)
		away(less)
		one, _ := impl.Branch(sealed.nodes, sealed.at)
		for at, n := range less {
			moved, ok := impl.Grafted(less, int64(at), one)
			if ok && int64(at) != sealed.nodes[sealed.at].Parent && n.Name != "" {
				want, said, code := expectedConsumed(g, sentNodes(moved))
				if code == 0 {
					t.Errorf("at %d the seal is as good", at)
				}
				wantConsumed(t, g, sentNodes(moved), want, said, code)
			}
		}
		wrapped, _ := impl.Wrapped(sealed.nodes, sealed.at, "w")
		away(wrapped)
		again, _ := impl.Grafted(less, sealed.nodes[sealed.at].Parent, one)
		wantLetIn(t, g, sentNodes(again), c)
	}
	// One on something else of the tree: on what stands beside, on what is further in, on what the Claim says of itself.
	beside := withGraft(t, bare, 0, `<x Id="k2"/>`)
	beside, _ = sealedTree(t, beside, int64(len(beside))-1, houseKey)
	away(beside)
	further := slices.Clone(bare)
	further[4].Attrs = attrs("Id", "k2")
	further, _ = sealedTree(t, further, 4, houseKey)
	away(further)
	// Letter and Claim change their Ids behind the seal: of the Letter's the inner one says nothing.
	renamed := func(nodes []impl.Node, at int) []impl.Node {
		other := slices.Clone(nodes)
		other[at].Attrs = attrs(other[at].Attrs[0].Name, "claim", "Id", "k9")
		return other
	}
	away(renamed(inner, 1))
	away(renamed(outer, 0))
	away(renamed(outer, 1))
	wantLetIn(t, g, sentNodes(renamed(inner, 0)), c)
}

// Behind the seal each text and each Value becomes another: nothing of it is let in.
func TestLettersChangedBehindTheSeal(t *testing.T) {
	g := plainGate()
	g.Asked, g.Skew, g.Hands[1] = table(4, "other 500", "r1 500"), maxSkew, hand("other", thirdKey)
	for _, at := range []int64{0, 1} {
		sealed, _ := sealedTree(t, letterNodes(fullClaim(), "m1"), at, houseKey)
		changed, aside := 0, 0
		try := func(i int, change func(n *impl.Node)) {
			other := slices.Clone(sealed)
			other[i].Attrs = slices.Clone(other[i].Attrs)
			change(&other[i])
			letters := sentNodes(other)
			want, said, code := expectedConsumed(g, letters)
			if code == 0 {
				aside++
				// The Claim alone is sealed, and this is not in it.
				if at == 0 || i > 0 {
					t.Errorf("%+v is let in", other)
				}
			}
			changed++
			wantConsumed(t, g, letters, want, said, code)
		}
		for i, n := range sealed {
			for _, text := range []string{"other", "gate", "r2", "idp", n.Text + "x"} {
				if n.Text != "" && n.Text != text {
					try(i, func(n *impl.Node) { n.Text = text })
				}
			}
			for j, a := range n.Attrs {
				for _, value := range []string{"other", "2000-01-01T00:02:00Z", "0000000000", "k9", a.Value + "0"} {
					try(i, func(n *impl.Node) { n.Attrs[j].Value = value })
				}
				try(i, func(n *impl.Node) { n.Attrs[j].Name = "x" })
			}
			if n.Name != "" {
				try(i, func(n *impl.Node) { n.Name = "c:other" })
				try(i, func(n *impl.Node) { n.Attrs = append(n.Attrs, attrs("more", "")...) })
			}
		}
		if changed < 100 || (aside > 0) != (at == 1) {
			t.Errorf("%d were changed, %d let in", changed, aside)
		}
	}
}

// Several seals: one that is right is enough, whichever it is.
func TestSeveralSealsOfALetter(t *testing.T) {
	g, c := plainGate(), fullClaim()
	const seal = `<s:Seal ns:s="seal" Ref="%s" Sum="0000000001" Sign="0000000002"/>`
	for at, id := range []string{"m1", "k1"} {
		for count := 1; count <= 3; count++ {
			nodes := letterNodes(c, "m1")
			for range count {
				nodes = withGraft(t, nodes, int64(at), fmt.Sprintf(seal, id))
			}
			wantTurnedAway(t, g, sentNodes(nodes), impl.GtSeal)
			seals := impl.SealsOf(nodes, int64(at))
			if len(seals) != count {
				t.Fatalf("%d seals of %+v", len(seals), nodes)
			}
			for _, seal := range seals {
				wantLetIn(t, g, sentNodes(signedSeal(nodes, seal, id, houseKey)), c)
				wantTurnedAway(t, g, sentNodes(signedSeal(nodes, seal, id, thirdKey)), impl.GtSeal)
				// For another one's Id it is signed in vain.
				wantTurnedAway(t, g, sentNodes(signedSeal(nodes, seal, []string{"k1", "m1"}[at], houseKey)), impl.GtSeal)
				wantTurnedAway(t, g, sentNodes(signedSeal(nodes, seal, "", houseKey)), impl.GtSeal)
			}
		}
	}
	// Inside by one, outside by the other.
	for _, inner := range []impl.Key{houseKey, thirdKey, mostKey} {
		for _, outer := range []impl.Key{houseKey, thirdKey, mostKey} {
			nodes, _ := sealedTree(t, letterNodes(c, "m1"), 1, inner)
			nodes, _ = sealedTree(t, nodes, 0, outer)
			if inner == houseKey || outer == houseKey {
				wantLetIn(t, g, sentNodes(nodes), c)
			} else {
				wantTurnedAway(t, g, sentNodes(nodes), impl.GtSeal)
			}
		}
	}
	// The outer one first: what then comes in breaks it, and does for both.
	nodes, _ := sealedTree(t, letterNodes(c, "m1"), 0, thirdKey)
	nodes, _ = sealedTree(t, nodes, 1, houseKey)
	wantLetIn(t, g, sentNodes(nodes), c)
	nodes, _ = sealedTree(t, letterNodes(c, "m1"), 0, houseKey)
	nodes, _ = sealedTree(t, nodes, 1, thirdKey)
	wantTurnedAway(t, g, sentNodes(nodes), impl.GtSeal)
}

// The skew just reaches a Term, or just misses it, at both ends.
func TestTermsOfClaims(t *testing.T) {
	for _, skew := range []int64{0, 1, 60, maxSkew} {
		for _, term := range [][2]int64{{100, 200}, {0, 1}, {100, 101}, {100000, 200000}, {lastTime - 1, lastTime}, {lastTime - 90000, lastTime - 86400}, {0, lastTime}, {lastTime - 100, lastTime - 60}} {
			c := plainClaim()
			c.From, c.To = term[0], term[1]
			letters := sentClaim(t, c, "", houseKey)
			for _, now := range []int64{c.From - skew, c.From, (c.From + c.To) / 2, c.To, c.To - 1, c.To + skew - 1} {
				g := plainGate()
				g.Skew, g.Now = skew, now
				if now < 0 || now >= lastTime || now >= c.To+skew || now < c.From-skew {
					continue
				}
				in := wantLetIn(t, g, letters, c)
				if until := keptRows(in.Heard)["k1"]; until != min(lastTime, c.To+skew) {
					t.Errorf("%+v is held until %d", c, until)
				}
			}
			for _, now := range []int64{c.From - skew - 1, c.To + skew, c.To + skew + 1, lastTime} {
				g := plainGate()
				g.Skew, g.Now = skew, now
				if now >= 0 && now <= lastTime {
					wantTurnedAway(t, g, letters, impl.GtTime)
				}
			}
		}
	}
	// Terms that have no time in them, or only by the skew.
	for _, c := range []struct{ from, to, skew, now, code int64 }{
		{150, 150, 0, 150, 9}, {150, 150, 1, 150, 0}, {150, 150, 1, 149, 0}, {150, 150, 1, 151, 9}, {150, 150, 1, 148, 9}, {200, 100, 0, 150, 9}, {200, 100, 50, 150, 9}, {200, 100, 51, 150, 0}, {200, 100, 51, 149, 0}, {200, 100, 51, 151, 9},
		{0, 0, 0, 0, 9}, {0, 0, 1, 0, 0}, {lastTime, lastTime, 1, lastTime, 9}, {lastTime, lastTime, 1, lastTime - 1, 0},
	} {
		claim, g := plainClaim(), plainGate()
		claim.From, claim.To, g.Skew, g.Now = c.from, c.to, c.skew, c.now
		letters := sentClaim(t, claim, "m1", houseKey)
		if c.code == 0 {
			wantLetIn(t, g, letters, claim)
		} else {
			wantTurnedAway(t, g, letters, c.code)
		}
	}
}

func TestClaimsForAnotherGate(t *testing.T) {
	for _, name := range []string{"Gate", "gates", "gat", "gate.", "idp", "ann", "other", strings.Repeat("g", 20)} {
		c := plainClaim()
		c.For = name
		letters := sentClaim(t, c, "", houseKey)
		wantTurnedAway(t, plainGate(), letters, impl.GtFor)
		there := plainGate()
		there.Name = name
		wantLetIn(t, there, letters, c)
		wantTurnedAway(t, there, sentClaim(t, plainClaim(), "m1", houseKey), impl.GtFor)
	}
}

func mustAsk(t *testing.T, g impl.Gate, id string, until int64) impl.Gate {
	t.Helper()
	asking, code := impl.Asks(g, id, until)
	if code != impl.TbOk {
		t.Fatalf("Asks(%+v, %q, %d) tells %d", g, id, until, code)
	}
	return asking
}

func mustTick(t *testing.T, g impl.Gate, by int64) impl.Gate {
	t.Helper()
	later, ok := impl.Ticked(g, by)
	if !ok {
		t.Fatalf("Ticked(%+v, %d) is refused", g, by)
	}
	return later
}

func mustTake(t *testing.T, g impl.Gate, letters string) impl.Gate {
	t.Helper()
	in, _, code := impl.Consumed(g, letters)
	if code != impl.GtOk {
		t.Fatalf("Consumed(%+v, %q) tells %d", g, shownLetter(letters), code)
	}
	return in
}

func claimOf(id, answers string) impl.Claim {
	c := plainClaim()
	c.Id, c.Answers = id, answers
	return c
}

func TestQuestionsAnsweredOnce(t *testing.T) {
	g := plainGate()
	g.Asked = table(3)
	one, two := sentClaim(t, claimOf("k1", "q1"), "", houseKey), sentClaim(t, claimOf("k2", "q1"), "m1", houseKey)
	wantTurnedAway(t, g, one, impl.GtAnswers)
	// What was heard is not what was asked, and what was asked not what was heard.
	g.Heard = table(4, "q1 500")
	wantTurnedAway(t, g, one, impl.GtAnswers)
	g = mustAsk(t, g, "k1", 500)
	wantTurnedAway(t, g, one, impl.GtAnswers)
	g = mustAsk(t, g, "q1", 170)
	wantLetIn(t, g, one, claimOf("k1", "q1"))
	wantLetIn(t, g, two, claimOf("k2", "q1"))
	// Of a like question one answer is let in.
	wantTurnedAway(t, mustTake(t, g, one), two, impl.GtAnswers)
	wantTurnedAway(t, mustTake(t, g, two), one, impl.GtAnswers)
	// What answers nothing takes nothing away.
	none := sentClaim(t, claimOf("k3", ""), "", houseKey)
	in := wantLetIn(t, g, none, claimOf("k3", ""))
	if !sameTable(in.Asked, g.Asked) {
		t.Errorf("Asked became %+v", in.Asked)
	}
	// A tick lets it go at its time, not ahead of it.
	wantLetIn(t, mustTick(t, g, 19), one, claimOf("k1", "q1"))
	wantTurnedAway(t, mustTick(t, g, 20), one, impl.GtAnswers)
	wantTurnedAway(t, mustTick(t, g, 21), one, impl.GtAnswers)
	wantLetIn(t, mustTick(t, g, 20), none, claimOf("k3", ""))
	// What is of no more use already is held till the next tick.
	late := mustAsk(t, g, "q2", 0)
	answer := sentClaim(t, claimOf("k4", "q2"), "", houseKey)
	wantLetIn(t, late, answer, claimOf("k4", "q2"))
	wantTurnedAway(t, mustTick(t, late, 0), answer, impl.GtAnswers)
	// Asked again it may be answered again, by another.
	again := mustAsk(t, mustTake(t, g, one), "q1", 500)
	wantTurnedAway(t, again, one, impl.GtHeard)
	wantLetIn(t, again, two, claimOf("k2", "q1"))
	// A Claim may answer what has its own Id.
	self := mustAsk(t, g, "k9", 500)
	wantLetIn(t, self, sentClaim(t, claimOf("k9", "k9"), "", houseKey), claimOf("k9", "k9"))
}

func TestHeardUpToTheMost(t *testing.T) {
	for most := int64(1); most <= maxRows; most++ {
		g, _ := impl.NewGate("gate", fourHands(), 60, most)
		g = mustTick(t, g, 150)
		for i := range most {
			c := claimOf(fmt.Sprintf("c%02d", 10+i), "")
			letters := sentClaim(t, c, "", houseKey)
			// With one place left it is let in yet.
			if i == most-1 {
				wantLetIn(t, g, letters, c)
			}
			g = mustTake(t, g, letters)
		}
		wantGateOk(t, g, true)
		more := claimOf("c9", "")
		wantTurnedAway(t, g, sentClaim(t, more, "", houseKey), impl.GtFull)
		wantTurnedAway(t, g, sentClaim(t, more, "m1", houseKey), impl.GtFull)
		wantTurnedAway(t, g, sentClaim(t, claimOf("c10", ""), "", houseKey), impl.GtHeard)
		wantTurnedAway(t, g, sentClaim(t, claimOf("c10", "r1"), "", houseKey), impl.GtAnswers)
		// What was heard is let go when it can no more be let in.
		longer := claimOf("c9", "")
		longer.To = 2000
		letters := sentClaim(t, longer, "", houseKey)
		wantTurnedAway(t, mustTick(t, g, 109), letters, impl.GtFull)
		wantLetIn(t, mustTick(t, g, 110), letters, longer)
		wantTurnedAway(t, mustTick(t, g, 110), sentClaim(t, more, "", houseKey), impl.GtTime)
	}
	// One of another end than the others makes the one place.
	g := plainGate()
	g.Heard = table(3, "a 160", "b 400", "c 500")
	letters := sentClaim(t, plainClaim(), "", houseKey)
	wantTurnedAway(t, g, letters, impl.GtFull)
	wantTurnedAway(t, mustTick(t, g, 9), letters, impl.GtFull)
	in := wantLetIn(t, mustTick(t, g, 10), letters, plainClaim())
	if !sameTable(in.Heard, table(3, "b 400", "c 500", "k1 260")) {
		t.Errorf("Heard is %+v", in.Heard)
	}
}

// One letter is let in once, whenever it comes again, and however it is changed around what is sealed.
func TestNoLetterIsLetInTwice(t *testing.T) {
	for _, skew := range []int64{0, 1, 60, 100} {
		for _, to := range []int64{101, 150, 200, lastTime - 50, lastTime} {
			c := plainClaim()
			c.To = to
			sealed, _ := sealedTree(t, letterNodes(c, ""), 1, houseKey)
			letters := []string{sentNodes(sealed), sentNodes(withGraft(t, sealed, 0, "<x/>")), sentClaim(t, c, "m1", houseKey)}
			for first := range letters {
				g := plainGate()
				g.Skew, g.Now, g.Heard = skew, 100, table(4)
				g = wantLetIn(t, g, letters[first], c)
				end := min(to+skew, lastTime)
				for _, now := range []int64{100, 101, end - 1, end, end + 1, lastTime - 1, lastTime} {
					if now < 100 || now > lastTime {
						continue
					}
					later := mustTick(t, g, now-100)
					code := int64(impl.GtHeard)
					if now >= end {
						code = impl.GtTime
					}
					for _, again := range letters {
						wantTurnedAway(t, later, again, code)
					}
				}
			}
		}
	}
}

// A visit is what comes to a gate: it waits, asks, or takes a letter.
type visit struct {
	gate impl.Gate
	// open counts how often each question was asked and not yet answered; let holds which Id with which To was let in.
	open map[string]int
	let  map[string]int
}

func (v *visit) goOn(t *testing.T, becomes impl.Gate, refused bool) {
	t.Helper()
	if !impl.GateOk(becomes) || refused && !sameGate(becomes, v.gate) {
		t.Fatalf("%+v became %+v", v.gate, becomes)
	}
	v.gate = becomes
}

func (v *visit) tick(t *testing.T, by int64) {
	want, ok := expectedTicked(v.gate, by)
	wantTicked(t, v.gate, by, want, ok)
	later, is := impl.Ticked(v.gate, by)
	v.goOn(t, later, !is)
}

func (v *visit) ask(t *testing.T, id string, until int64) int64 {
	want, told := expectedAsks(v.gate, id, until)
	wantAsks(t, v.gate, id, until, want, told)
	asking, code := impl.Asks(v.gate, id, until)
	if code != impl.TbBad {
		v.goOn(t, asking, code != impl.TbOk)
	}
	if code == impl.TbOk {
		v.open[id]++
	}
	return code
}

func (v *visit) take(t *testing.T, letters string) int64 {
	want, said, told := expectedConsumed(v.gate, letters)
	wantJustConsumed(t, v.gate, letters, want, said, told)
	in, c, code := impl.Consumed(v.gate, letters)
	v.goOn(t, in, code != impl.GtOk)
	if code != impl.GtOk {
		return code
	}
	key := fmt.Sprint(c.Id, " ", c.To)
	v.let[key]++
	if v.let[key] > 1 {
		t.Fatalf("%s is let in twice", key)
	}
	if c.Answers != "" {
		v.open[c.Answers]--
		if v.open[c.Answers] < 0 {
			t.Fatalf("%s is answered twice", c.Answers)
		}
	}
	return code
}

// visitLetters are of few Ids, Terms and questions; most of them are made as they should be.
func visitLetters(t *testing.T, next func(int) int, count int) []string {
	var list []string
	for range count {
		c := plainClaim()
		c.Id, c.From = []string{"k1", "k2", "k3", "k4", "k5"}[next(5)], []int64{0, 20, 100}[next(3)]
		c.To = c.From + []int64{1, 30, 200}[next(3)]
		c.Answers = []string{"", "", "q1", "q2", "q3"}[next(5)]
		c.Issuer = []string{"idp", "idp", "two", "nobody"}[next(4)]
		c.For = []string{"gate", "gate", "gate", "other"}[next(4)]
		k := []impl.Key{houseKey, houseKey, thirdKey}[next(3)]
		if c.Issuer == "two" {
			k = []impl.Key{thirdKey, thirdKey, houseKey}[next(3)]
		}
		nodes, _ := sealedTree(t, letterNodes(c, "m1"), int64(next(2)), k)
		for range max(0, next(6)-3) {
			if nodes = spoiled(next, nodes); len(nodes) == 0 {
				break
			}
		}
		letters := sentNodes(nodes)
		if next(20) == 0 {
			letters = letters[:next(len(letters)+1)]
		}
		list = append(list, letters)
	}
	return list
}

// Promise 17: a gate stays right, whatever comes; what is refused changes nothing. And none is let in twice, no question answered twice.
func TestAGateStaysRightWhateverComes(t *testing.T) {
	told, asked := map[int64]int{}, map[int64]int{}
	for seed := range 120 {
		next := dice(seed)
		g, ok := impl.NewGate("gate", fourHands()[:2], []int64{0, 1, 10, 60}[next(4)], int64(1+next(5)))
		if !ok {
			t.Fatal("no gate")
		}
		v := visit{g, map[string]int{}, map[string]int{}}
		letters := visitLetters(t, next, 12)
		for range 50 {
			switch next(8) {
			case 0, 1:
				v.tick(t, []int64{0, 1, 5, 20, -1, farNumber(next)}[next(6)]%5000)
			case 2, 3:
				asked[v.ask(t, []string{"q1", "q2", "q3", "k1", "", "Q"}[next(6)], v.gate.Now+int64(next(60)))]++
			default:
				told[v.take(t, letters[next(len(letters))])]++
			}
			if t.Failed() {
				t.FailNow()
			}
		}
	}
	for code := range int64(14) {
		if told[code] < 5 {
			t.Errorf("only %d were told %d", told[code], code)
		}
	}
	for code := range int64(4) {
		if asked[code] < 20 {
			t.Errorf("only %d asked were told %d", asked[code], code)
		}
	}
}

// gateTexts are all texts of a Gate.
func gateTexts(g impl.Gate) []string {
	list := []string{g.Name}
	for _, h := range g.Hands {
		list = append(list, h.Issuer)
	}
	for _, r := range slices.Concat(g.Asked.Rows, g.Heard.Rows) {
		list = append(list, r.Id)
	}
	return list
}

func saidTexts(c impl.Claim) []string { return tokenTexts(claimTokens(c)) }

// layGate lays each text and each list of a Gate ahead of spare room.
func layGate(g impl.Gate) (impl.Gate, func(t *testing.T)) {
	texts, buffers := []string{g.Name}, make([][]byte, 1)
	given := g
	given.Name, buffers[0] = laid(g.Name)
	whole := make([]impl.Hand, 0, len(g.Hands)+3)
	for _, h := range g.Hands {
		issuer, buffer := laid(h.Issuer)
		texts, buffers = append(texts, h.Issuer), append(buffers, buffer)
		whole = append(whole, impl.Hand{Issuer: issuer, Key: h.Key})
	}
	given.Hands = whole
	whole = append(whole, hand("spare", mostKey), hand("room", mostKey))
	before := slices.Clone(whole)
	asked, askedStays := layTable(g.Asked)
	heard, heardStays := layTable(g.Heard)
	given.Asked, given.Heard = asked, heard
	return given, func(t *testing.T) {
		t.Helper()
		if !sameGate(given, g) || !slices.Equal(whole, before) {
			t.Errorf("the Gate %+v became %+v, and what is behind its Hands %+v", g, given, whole)
		}
		buffersStay(t, texts, buffers)
		askedStays(t)
		heardStays(t)
	}
}

// wantGatesApart holds that no text and no list of the answers lie in one another, or in what was given.
func wantGatesApart(t *testing.T, given impl.Gate, texts []string, answers []impl.Gate, said []impl.Claim) {
	t.Helper()
	all, hands, rows := append(texts, gateTexts(given)...), [][]impl.Hand{given.Hands}, [][]impl.Row{given.Asked.Rows, given.Heard.Rows}
	apart := func(text string) {
		t.Helper()
		if slices.ContainsFunc(all, func(other string) bool { return sharesMemory(text, other) }) {
			t.Errorf("the text %q of an answer lies in another one", text)
		}
		all = append(all, text)
	}
	for _, g := range answers {
		for _, text := range gateTexts(g) {
			apart(text)
		}
		if slices.ContainsFunc(hands, func(other []impl.Hand) bool { return sharesRoom(g.Hands, other) }) {
			t.Errorf("the Hands %+v lie in another list", g.Hands)
		}
		hands = append(hands, g.Hands)
		for _, list := range [][]impl.Row{g.Asked.Rows, g.Heard.Rows} {
			if slices.ContainsFunc(rows, func(other []impl.Row) bool { return sharesRoom(list, other) }) {
				t.Errorf("the Rows %+v lie in another list", list)
			}
			rows = append(rows, list)
		}
	}
	for i, c := range said {
		for _, text := range saidTexts(c) {
			apart(text)
		}
		for _, other := range said[:i] {
			if sharesRoom(c.Facts, other.Facts) {
				t.Errorf("the Facts %+v lie in another list", c.Facts)
			}
		}
	}
}

func copiedGate(g impl.Gate) impl.Gate {
	g.Hands, g.Asked.Rows, g.Heard.Rows = slices.Clone(g.Hands), slices.Clone(g.Asked.Rows), slices.Clone(g.Heard.Rows)
	return g
}

// spoilGate writes over all that a Gate has, and over the spare room behind it.
func spoilGate(g impl.Gate) {
	hands := g.Hands[:cap(g.Hands)]
	for i := range hands {
		hands[i] = impl.Hand{Issuer: "CHANGED-"}
	}
	spoilRows(g.Asked)
	spoilRows(g.Heard)
}

// wantGatesOwn holds that what is changed in one answer changes no other one, and nothing that was given.
func wantGatesOwn(t *testing.T, answers []impl.Gate, stays func(t *testing.T)) {
	t.Helper()
	for i, g := range answers {
		before := make([]impl.Gate, 0, len(answers))
		for _, other := range answers[i+1:] {
			before = append(before, copiedGate(other))
		}
		spoilGate(g)
		for j, other := range answers[i+1:] {
			if !sameGate(other, before[j]) {
				t.Errorf("the Gate %+v became %+v", before[j], other)
			}
		}
		stays(t)
	}
}

// Promise 21 for chapter 17.
func TestGateAnswersAreNewMemoryAndArgumentsStay(t *testing.T) {
	var letters []string
	for code := range int64(14) {
		_, one := faultyLetter(t, code%2 == 0, func(other int64) bool { return other == code })
		letters = append(letters, one)
	}
	letters = append(letters, "", sentClaim(t, plainClaim(), "", houseKey), sentClaim(t, claimOf("a", ""), "a0", houseKey))
	gates := append(rightGates(), impl.Gate{}, impl.Gate{Name: "a", Hands: []impl.Hand{hand("a", houseKey)}, Now: 150, Asked: table(1, "a 900"), Heard: table(1, "a 900")})
	full := plainGate()
	full.Heard = countedTable(20, 20)
	half := plainGate()
	half.Heard, half.Asked = countedTable(20, 10), countedTable(20, 10)
	wrong := plainGate()
	wrong.Skew = -1
	let := 0
	for _, g := range append(gates, full, half, wrong) {
		for i, letter := range letters {
			given, stays := layGate(g)
			text, buffer := laid(letter)
			id, idBuffer := laid([]string{"r1", "r9", "", "a"}[i%4])
			by := []int64{0, 60, 1 << 30, -1}[i%4]
			impl.GateOk(given)
			later, _ := impl.Ticked(given, by)
			laterAgain, _ := impl.Ticked(given, by)
			asking, _ := impl.Asks(given, id, 700)
			askingAgain, _ := impl.Asks(given, id, 700)
			in, c, code := impl.Consumed(given, text)
			inAgain, again, _ := impl.Consumed(given, text)
			fresh, _ := impl.NewGate(given.Name, given.Hands, given.Skew, 4)
			freshAgain, _ := impl.NewGate(given.Name, given.Hands, given.Skew, 4)
			if code == impl.GtOk {
				let++
			}
			answers := []impl.Gate{later, laterAgain, asking, askingAgain, in, inAgain, fresh, freshAgain}
			wantGatesApart(t, given, []string{text, id}, answers, []impl.Claim{c, again})
			stays(t)
			for i := range c.Facts {
				c.Facts[i] = impl.Attr{Name: "changed", Value: "changed"}
			}
			if code == impl.GtOk && !sameClaim(again, copiedClaim(again)) {
				t.Errorf("a Claim became %+v", again)
			}
			wantGatesOwn(t, answers, stays)
			if string(buffer) != letter+"spare room" || string(idBuffer) != id+"spare room" {
				t.Errorf("the letter or the Id became %q, %q", buffer, idBuffer)
			}
			if t.Failed() {
				t.FailNow()
			}
		}
	}
	if let < 50 {
		t.Errorf("only %d were let in", let)
	}
}

// Of one Gate two are made by two letters: neither one knows of the other.
func TestGatesFromOneGateAreApart(t *testing.T) {
	g := mustAsk(t, plainGate(), "q1", 900)
	for _, id := range []string{"0", "a0a", "k1", "zz"} {
		one := mustTake(t, g, sentClaim(t, claimOf(id, "q1"), "", houseKey))
		other := mustTake(t, g, sentClaim(t, claimOf(id+"y", "r1"), "m1", houseKey))
		third := mustAsk(t, g, id, 900)
		for _, c := range []struct {
			gate                   impl.Gate
			q1, r1, own, heard, hy bool
		}{{g, true, true, false, false, false}, {one, false, true, false, true, false}, {other, true, false, false, false, true}, {third, true, true, true, false, false}} {
			wantHolds(t, c.gate.Asked, "q1", c.q1)
			wantHolds(t, c.gate.Asked, "r1", c.r1)
			wantHolds(t, c.gate.Asked, id, c.own)
			wantHolds(t, c.gate.Heard, id, c.heard)
			wantHolds(t, c.gate.Heard, id+"y", c.hy)
		}
	}
}

// strewnGate is right, most of it.
func strewnGate(next func(int) int) impl.Gate {
	g := plainGate()
	g.Hands = fourHands()[:1+next(4)]
	g.Skew, g.Now = []int64{0, 60, maxSkew, int64(next(maxSkew))}[next(4)], []int64{0, 150, 199, lastTime, int64(next(500))}[next(5)]
	g.Asked, g.Heard = countedTable(20, next(21)), countedTable(int64(1+next(6)), next(2))
	g.Asked.Rows = append(g.Asked.Rows, impl.Row{Id: "r1", Until: 500})
	for range max(0, next(6)-3) {
		b := wrongTables()[next(len(wrongTables()))]
		switch next(8) {
		case 0:
			g.Name = noWords()[next(len(noWords()))]
		case 1:
			g.Hands[next(len(g.Hands))].Issuer = []string{"idp", "two", "", "-", "x"}[next(5)]
		case 2:
			g.Hands[next(len(g.Hands))].Key = append(wrongKeys(), sealKeys()...)[next(len(wrongKeys())+4)]
		case 3:
			g.Hands = append(g.Hands, hand([]string{"idp", "z"}[next(2)], mostKey))
		case 4:
			g.Skew = farNumber(next)
		case 5:
			g.Now = farNumber(next)
		case 6:
			g.Asked = b
		case 7:
			g.Heard = b
		}
	}
	return g
}

// Promise 21 for chapter 17: an answer to whatever is given, and the same one each time.
func TestGateFunctionsAnswerEverywhere(t *testing.T) {
	right, told := 0, map[int64]int{}
	letters := []string{"", "?", "QQ==", impl.ToLetters(allBytes()), impl.ToLetters("<a/>")}
	for seed := range 40 {
		letters = append(letters, visitLetters(t, dice(seed), 5)...)
	}
	for seed := range 150 {
		next := dice(seed)
		letters = append(letters, sentNodes(anyNodes(next)), impl.ToLetters(strewnText(next, allBytes(), 40)), strewnText(next, allBytes(), 40), strewnText(next, "ABab01+/=", 40))
	}
	for seed := range 1500 {
		next := dice(seed)
		g := strewnGate(next)
		ok := expectedGateOk(g)
		if ok {
			right++
		}
		letter := letters[next(len(letters))]
		for range 2 {
			wantGateOk(t, g, ok)
			_, is := expectedNewGate(g.Name, g.Hands, g.Skew, g.Heard.Most)
			wantNewGate(t, g.Name, g.Hands, g.Skew, g.Heard.Most, is)
			for _, by := range []int64{farNumber(next), int64(next(400)), lastTime - g.Now} {
				want, ok := expectedTicked(g, by)
				wantTicked(t, g, by, want, ok)
			}
			for _, id := range []string{noIds()[next(len(noIds()))], strewnText(next, "abz019", 3), "r1"} {
				for _, until := range []int64{farNumber(next), int64(next(400))} {
					want, code := expectedAsks(g, id, until)
					wantAsks(t, g, id, until, want, code)
				}
			}
			want, said, code := expectedConsumed(g, letter)
			wantJustConsumed(t, g, letter, want, said, code)
			told[code]++
		}
		if t.Failed() {
			t.FailNow()
		}
	}
	if right < 400 || right > 1300 || len(told) < 10 {
		t.Errorf("%d were right, told was %v", right, told)
	}
}
