package tests

import (
	"cmp"
	"fmt"
	"regexp"
	"slices"
	"strconv"
	"strings"
	"sync"
	"testing"

	"loop.example/g00379/impl"
)

// These are what the table of the chapter speaks of.
type chapters struct {
	happen   func(g impl.Gate, a impl.Act) (impl.Gate, impl.Claim, int64)
	made     func(k impl.Key, c impl.Claim, id string, outer bool) ([]impl.Node, bool)
	edited   func(t, other []impl.Node, list []impl.Edit) ([]impl.Node, bool)
	sent     func(t []impl.Node) string
	canon    func(t []impl.Node, at, but int64) string
	hash     func(s string) int64
	timeText func(t int64) string
	keyOf    func(p, q, e int64) (impl.Key, bool)
}

var (
	byOracles = chapters{expectedHappen, expectedMade, expectedEdited, expectedSent, expectedCanon, expectedHash, expectedTimeText, expectedKeyOf}
	byProgram = chapters{impl.Happen, impl.Made, impl.Edited, impl.Sent, impl.Canon, impl.Hash, impl.TimeText, impl.KeyOf}
)

type benchState struct {
	chapters
	gate   impl.Gate
	letter []impl.Node
}

// A lineForm tells what is done with the words of a line of this form, and the answer: empty where it is refused.
type lineForm struct {
	form *regexp.Regexp
	tell func(b *benchState, w []string) string
}

func formOf(row string) *regexp.Regexp {
	row = strings.ReplaceAll(row, " N", ` (0|-?[1-9][0-9]{0,9})`)
	return regexp.MustCompile(`\A` + strings.ReplaceAll(row, " W", ` ([^ ]+)`) + `\z`)
}

var lineForms = []lineForm{
	{formOf("tick N"), func(b *benchState, w []string) string {
		return map[int64]string{0: "ok"}[b.act(impl.Act{Kind: 1, By: numberIn(w[1])}).code]
	}},
	{formOf("ask W N"), func(b *benchState, w []string) string {
		return map[int64]string{0: "0", 1: "1", 2: "2"}[b.act(impl.Act{Kind: 2, Id: w[1], By: numberIn(w[2])}).code]
	}},
	{formOf("make W W N N W W N"), func(b *benchState, w []string) string {
		c := impl.Claim{Id: w[1], Issuer: "idp", Subject: w[2], From: numberIn(w[3]), To: numberIn(w[4]), For: w[5], Answers: w[6]}
		if w[6] == "-" {
			c.Answers = ""
		}
		letter, ok := b.made(houseKey, c, "outer", w[7] == "1")
		if !ok || w[7] != "0" && w[7] != "1" {
			return ""
		}
		b.letter = letter
		return fmt.Sprint(len(letter))
	}},
	{formOf("prune N"), func(b *benchState, w []string) string { return b.edit(prune(numberIn(w[1]))) }},
	{formOf("graft N N"), func(b *benchState, w []string) string { return b.edit(graft(numberIn(w[1]), numberIn(w[2]))) }},
	{formOf("wrap N W"), func(b *benchState, w []string) string { return b.edit(wrap(numberIn(w[1]), w[2])) }},
	{formOf("take"), func(b *benchState, w []string) string {
		if b.letter == nil {
			return ""
		}
		told := b.act(take(b.sent(b.letter)))
		return fmt.Sprint(told.code, " ", cmp.Or(told.said.Subject, "-"))
	}},
	{formOf("canon N"), func(b *benchState, w []string) string {
		canon := b.canon(b.letter, numberIn(w[1]), -1)
		if canon == "" {
			return ""
		}
		return fmt.Sprint(len(canon), " ", b.hash(canon))
	}},
	{formOf("at N"), func(b *benchState, w []string) string { return b.timeText(numberIn(w[1])) }},
	{formOf("key N N N"), func(b *benchState, w []string) string {
		k, ok := b.keyOf(numberIn(w[1]), numberIn(w[2]), numberIn(w[3]))
		if !ok {
			return ""
		}
		return fmt.Sprint(k.N, " ", k.D)
	}},
}

func numberIn(word string) int64 {
	n, err := strconv.ParseInt(word, 10, 64)
	if err != nil {
		panic(err)
	}
	return n
}

type actTold struct {
	said impl.Claim
	code int64
}

func (b *benchState) act(a impl.Act) actTold {
	g, said, code := b.happen(b.gate, a)
	b.gate = g
	return actTold{said, code}
}

func (b *benchState) edit(e impl.Edit) string {
	if b.letter == nil {
		return ""
	}
	b.letter, _ = b.edited(b.letter, wide(1), edits(e))
	return "ok"
}

func (b *benchState) answer(line string) string {
	for _, one := range lineForms {
		if w := one.form.FindStringSubmatch(line); w != nil {
			return cmp.Or(one.tell(b, w), "error")
		}
	}
	return "error"
}

// benchGate is the one with which a bench begins.
func benchGate() impl.Gate {
	return impl.Gate{Name: "gate", Hands: []impl.Hand{{Issuer: "idp", Key: impl.Key{N: houseKey.N, E: houseKey.E}}}, Skew: 60, Asked: impl.Table{Most: 4}, Heard: impl.Table{Most: 4}}
}

func expectedBench(by chapters, text string) string {
	lines := strings.Split(text, "\n")
	if lines[len(lines)-1] == "" {
		lines = lines[:len(lines)-1]
	}
	if len(text) > 20000 || len(lines) > 200 {
		return ""
	}
	b, out := &benchState{chapters: by, gate: benchGate()}, ""
	for _, line := range lines {
		if line != "" {
			out += b.answer(line) + "\n"
		}
	}
	return out
}

func wantBench(t *testing.T, text, want string) {
	t.Helper()
	if got := expectedBench(byOracles, text); got != want {
		t.Errorf("of %q the oracle says %q, not %q", text, got, want)
	}
	if got := impl.Bench(text); got != want {
		t.Errorf("Bench(%q) = %q, not %q", text, got, want)
	}
}

// wantSteps takes lines, each with the answer behind it. It holds as well that what comes later changes no answer before.
func wantSteps(t *testing.T, pairs ...string) {
	t.Helper()
	text, want := "", ""
	for at := 0; at < len(pairs); at += 2 {
		text, want = text+pairs[at]+"\n", want+pairs[at+1]+"\n"
		if got := impl.Bench(text); got != want {
			t.Errorf("Bench(%q) = %q, not %q", text, got, want)
		}
	}
	wantBench(t, text, want)
	wantBench(t, strings.TrimSuffix(text, "\n"), want)
}

func TestBenchNumbers(t *testing.T) {
	if impl.MaxBench != 20000 || impl.MaxLines != 200 {
		t.Errorf("the limits are %d and %d", impl.MaxBench, impl.MaxLines)
	}
}

// Each kind of line by itself, as the first one.
func TestBenchByOneLine(t *testing.T) {
	for line, answer := range map[string]string{
		"tick 0": "ok", "tick 1": "ok", "tick 150": "ok", "tick 3155759999": "ok", "tick 3155759998": "ok", "tick 3155760000": "error", "tick 9999999999": "error", "tick -1": "error", "tick -3155759999": "error", "tick": "error", "tick x": "error",
		"ask r1 90": "0", "ask r1 0": "0", "ask r1 -1": "0", "ask r1 3155759999": "0", "ask r1 -3155759999": "0", "ask r1 3155760000": "error", "ask r1 -3155760000": "error", "ask r1 9999999999": "error", "ask 0 5": "0", "ask " + longestId + " 5": "0", "ask outer 5": "0", "ask 5 r1": "error", "ask R 5": "error", "ask - 5": "error", "ask r1": "error", "ask 5": "error",
		"make k1 ann 100 200 gate - 0": "10", "make k1 ann 100 200 gate - 1": "10", "make k1 ann 100 200 gate r1 0": "12", "make k1 ann 100 200 gate r1 1": "12", "make k1 ann 100 200 door k1 0": "12", "make 0 . 0 0 @ 0 1": "12",
		"make k1 idp 0 3155759999 idp outer 1": "12", "make k1 ann 200 100 gate - 0": "10", "make k1 ann 200 200 gate - 1": "10", "make " + longestId + " A.b@A.b@A.b@A.b@A.b@ 3155759999 0 z.@9z.@9z.@9z.@9z.@9 012789abcxyz 1": "12",
		"make outer ann 100 200 gate - 0": "error", "make outer ann 100 200 gate - 1": "error", "make - ann 100 200 gate - 0": "error", "make k1 - 100 200 gate - 0": "error", "make k1 ann 100 200 - - 0": "error", "make k1 ann 100 200 gate -- 0": "error", "make k1 ann 100 200 gate - -": "error",
		"make k1 ann 100 200 gate - 2": "error", "make k1 ann 100 200 gate - -1": "error", "make k1 ann 100 200 gate - 9999999999": "error", "make k1 ann 100 200 gate - 4294967297": "error", "make k1 ann 100 200 gate - 257": "error", "make k1 ann 100 200 gate - 10": "error",
		"make k1 ann -1 200 gate - 0": "error", "make k1 ann 100 -1 gate - 0": "error", "make k1 ann 3155760000 200 gate - 0": "error", "make k1 ann 100 3155760000 gate - 0": "error", "make k1 ann 100 9999999999 gate - 0": "error", "make k1 ann x 200 gate - 0": "error", "make k1 ann 100 200 gate - 0 0": "error", "make k1 ann 100 200 gate 0": "error", "make": "error",
		// There is no letter yet.
		"prune 1": "error", "graft 0 1": "error", "wrap 1 x": "error", "take": "error", "canon 0": "error", "prune 0": "error", "prune -1": "error", "graft 99 99": "error", "wrap 0 1": "error", "canon -1": "error", "canon 9999999999": "error",
		"at 0": "2000-01-01T00:00:00Z", "at 100": "2000-01-01T00:01:40Z", "at 5097600": "2000-02-29T00:00:00Z", "at 3155759999": "2099-12-31T23:59:59Z", "at 3155760000": "error", "at -1": "error", "at 9999999999": "error", "at 10000000000": "error", "at": "error", "at 2000-01-01T00:00:00Z": "error",
		"key 65521 40009 17": "2621429689 925173233", "key 40009 65521 17": "2621429689 925173233", "key 46337 46349 3": "2147673613 1431720619", "key 65521 45779 65537": "2999485859 144895553", "key 46349 46351 11": "2148322499 976468091",
		"key 65521 40009 16": "error", "key 65521 65521 17": "error", "key 65521 40010 17": "error", "key 46349 46351 3": "error", "key 65521 45787 17": "error", "key 65521 40009 65539": "error", "key 65521 40009 1": "error", "key 65521 40009 -17": "error", "key 0 0 0": "error", "key 9999999999 9999999999 9999999999": "error", "key -9999999999 -9999999999 -9999999999": "error", "key 4294967296 4294967296 17": "error", "key 65521 40009": "error", "key 65521 40009 17 17": "error",
		"what": "error", "ok": "error", "error": "error", "-": "error", "0": "error", " ": "error", "tick0": "error", "Tick 0": "error", "TAKE": "error", "takes": "error", "tak": "error", "t": "error", "outer": "error", "other 0 1": "error", "graftother 0 1": "error", "\x00": "error", "\xff": "error", "#": "error",
	} {
		wantSteps(t, line, answer)
	}
	wantBench(t, "", "")
}

// Signs, Sums and Hashes of these were worked out apart from the program.
func TestBenchLettersWorkedOutApart(t *testing.T) {
	for _, c := range []struct{ made, nodes, whole, claim, issuer string }{
		{"make k1 ann 100 200 gate - 0", "10", "298 2099799137", "253 511294742", "37 2111476798"},
		{"make k1 ann 100 200 gate - 1", "10", "301 998996876", "180 248290203", "37 2111476798"},
		{"make k1 ann 100 200 gate r1 0", "12", "323 2128519712", "278 1865180188", "37 2111476798"},
		{"make k1 ann 100 200 gate r1 1", "12", "326 1495359616", "205 2113215231", "37 2111476798"},
		{"make abcxyz012789 A.b@A.b@A.b@A.b@A.b@ 0 3155759999 z.@9z.@9z.@9z.@9z.@9 012789abcxyz 0", "12", "386 775139932", "341 863439207", "37 2111476798"},
		{"make abcxyz012789 A.b@A.b@A.b@A.b@A.b@ 0 3155759999 z.@9z.@9z.@9z.@9z.@9 012789abcxyz 1", "12", "379 326121839", "258 1122909273", "37 2111476798"},
	} {
		wantSteps(t, c.made, c.nodes, "canon 0", c.whole, "canon 1", c.claim, "canon 2", c.issuer, "canon 3", "error", "canon "+c.nodes, "error")
	}
}

func canonTold(s string) string { return fmt.Sprint(len(s), " ", expectedHash(s)) }

func TestBenchCanonOfEachNode(t *testing.T) {
	const term = ` From="2000-01-01T00:01:40Z" To="2000-01-01T00:03:20Z"></c:Term>`
	const inner = `<c:Issuer>idp</c:Issuer><c:Subject>ann</c:Subject><c:Term` + term + `<c:For>gate</c:For><c:Answers>r1</c:Answers>`
	const first, claim = `<l:Letter ns:l="claim" Id="outer">`, `<c:Claim ns:c="claim" Id="k1">`
	// In what is read as one way to write it, Sign stands ahead of Sum.
	const within = `<s:Seal ns:s="seal" Ref="k1" Sign="0796852828" Sum="2113215231"></s:Seal>`
	const outside = `<s:Seal ns:s="seal" Ref="outer" Sign="0653518380" Sum="0592500513"></s:Seal>`
	parts := []string{
		"canon 2", canonTold(`<c:Issuer ns:c="claim">idp</c:Issuer>`), "canon 3", "error", "canon 4", canonTold(`<c:Subject ns:c="claim">ann</c:Subject>`), "canon 5", "error",
		"canon 6", canonTold(`<c:Term ns:c="claim"` + term), "canon 7", canonTold(`<c:For ns:c="claim">gate</c:For>`), "canon 8", "error", "canon 9", canonTold(`<c:Answers ns:c="claim">r1</c:Answers>`), "canon 10", "error",
		"canon 12", "error", "canon 13", "error", "canon 50", "error", "canon -1", "error", "canon -2", "error", "canon 4294967296", "error", "canon 9999999999", "error", "canon -9999999999", "error",
	}
	wantSteps(t, append([]string{"make k1 ann 100 200 gate r1 0", "12", "canon 0", canonTold(first + claim + inner + within + `</c:Claim></l:Letter>`), "canon 1", canonTold(claim + inner + within + `</c:Claim>`), "canon 11", canonTold(within)}, parts...)...)
	wantSteps(t, append([]string{"make k1 ann 100 200 gate r1 1", "12", "canon 0", canonTold(first + claim + inner + `</c:Claim>` + outside + `</l:Letter>`), "canon 1", canonTold(claim + inner + `</c:Claim>`), "canon 11", canonTold(outside)}, parts...)...)
	// Edited, it is the letter that is now; without a meaning for each name there is no Canon at all.
	wantSteps(t, "make k1 ann 100 200 gate - 0", "10", "prune 9", "ok", "canon 1", canonTold(claim+strings.TrimSuffix(inner, `<c:Answers>r1</c:Answers>`)+`</c:Claim>`), "prune 5", "ok", "wrap 4 l:x", "ok", "canon 4", canonTold(`<l:x ns:l="claim"><c:Subject ns:c="claim"></c:Subject></l:x>`),
		"graft 5 2", "ok", "canon 5", canonTold(`<c:Subject ns:c="claim"><c:Issuer>idp</c:Issuer></c:Subject>`), "wrap 5 q:x", "ok", "canon 0", "error", "canon 2", "error", "prune 5", "ok", "canon 4", canonTold(`<l:x ns:l="claim"></l:x>`), "make k1 ann 100 200 gate r1 1", "12", "canon 1", canonTold(claim+inner+`</c:Claim>`))
}

func TestBenchTakes(t *testing.T) {
	for _, outer := range []string{" 0", " 1"} {
		made := func(rest string) string { return "make " + rest + outer }
		// In its time and out of it: more or less the skew.
		wantSteps(t, made("k1 ann 100 200 gate -"), "10", "take", "9 -", "tick 39", "ok", "take", "9 -", "tick 1", "ok", "take", "0 ann", "take", "12 -", "tick 219", "ok", "take", "12 -", "tick 1", "ok", "take", "9 -")
		wantSteps(t, "tick 259", "ok", made("k1 ann 100 200 gate -"), "10", "take", "0 ann", "tick 0", "ok", "take", "12 -", "tick 1", "ok", "take", "9 -")
		wantSteps(t, "tick 260", "ok", made("k1 ann 100 200 gate -"), "10", "take", "9 -", made("k1 ann 100 201 gate -"), "10", "take", "0 ann")
		wantSteps(t, made("k1 ann 0 1 gate -"), "10", "take", "0 ann", "tick 60", "ok", "take", "12 -", "tick 1", "ok", "take", "9 -")
		wantSteps(t, made("k1 ann 60 60 gate -"), "10", "take", "0 ann", "tick 119", "ok", "take", "12 -", "tick 1", "ok", "take", "9 -", made("k1 ann 61 3155759999 gate -"), "10", "take", "0 ann")
		wantSteps(t, made("k1 ann 61 61 gate -"), "10", "take", "9 -", "tick 1", "ok", "take", "0 ann", "take", "12 -")
		wantSteps(t, "tick 3155759998", "ok", made("k1 ann 0 3155759999 gate -"), "10", "take", "0 ann", "tick 1", "ok", "take", "9 -", "tick 1", "ok", "take", "9 -")
		// A FROM that is not before its TO, where the skew makes the ends pass each other, and where it does not.
		wantSteps(t, "tick 150", "ok", made("k1 ann 200 100 gate -"), "10", "take", "0 ann", made("k2 ann 201 81 gate -"), "10", "take", "9 -", made("k2 ann 200 90 gate -"), "10", "take", "9 -", made("k2 ann 200 91 gate -"), "10", "take", "0 ann")
		// Meant or not, asked for or not.
		wantSteps(t, made("k1 ann 0 99 door -"), "10", "take", "10 -", made("k1 ann 0 99 Gate -"), "10", "take", "10 -", made("k1 ann 0 99 gat -"), "10", "take", "10 -", made("k1 bob 0 99 gate -"), "10", "take", "0 bob")
		wantSteps(t, made("k1 ann 0 99 gate r1"), "12", "take", "11 -", "ask r2 9", "0", "take", "11 -", "ask r1 9", "0", "take", "0 ann", "take", "11 -", "ask r1 9", "0", "take", "12 -", made("k2 bob 0 99 gate r1"), "12", "take", "0 bob", made("k3 eve 0 99 gate r1"), "12", "take", "11 -", made("k3 eve 0 99 gate r2"), "12", "take", "0 eve")
		wantSteps(t, "ask r1 9", "0", "tick 8", "ok", made("k1 ann 0 99 gate r1"), "12", "tick 1", "ok", "take", "11 -", "ask r1 -1", "0", "take", "0 ann")
		wantSteps(t, "ask k1 9", "0", made("k1 ann 0 99 gate k1"), "12", "take", "0 ann", made("k1 eve 0 999 gate -"), "10", "take", "12 -", "tick 159", "ok", "take", "0 eve")
		// The Subject is what the letter says, whatever it looks like.
		for _, subject := range []string{"0", "12", "ok", "error", "take", ".", "@", "A.b@A.b@A.b@A.b@A.b@", "gate", "idp", "k1"} {
			wantSteps(t, made("k1 "+subject+" 0 99 gate -"), "10", "take", "0 "+subject, "take", "12 -")
		}
	}
}

func TestBenchTablesOfFour(t *testing.T) {
	wantSteps(t, "ask r1 9", "0", "ask r2 8", "0", "ask r2 9", "1", "ask r3 8", "0", "ask r4 9", "0", "ask r5 9", "2", "ask r4 9", "1", "ask r1 -5", "1", "ask R 9", "error", "ask r5 3155760000", "error", "tick 7", "ok", "ask r5 9", "2", "tick 1", "ok", "ask r5 9", "0", "ask r2 9", "0", "ask r3 9", "2", "ask r4 9", "1")
	for _, outer := range []string{" 0", " 1"} {
		var pairs []string
		for _, id := range []string{"k1", "k4", "k3", "k2"} {
			pairs = append(pairs, "make "+id+" ann 0 99 gate -"+outer, "10", "take", "0 ann")
		}
		pairs = append(pairs, "take", "12 -", "make k5 bob 0 99 gate -"+outer, "10", "take", "13 -", "take", "13 -", "ask r1 500", "0", "make k5 bob 0 999 gate r1"+outer, "12", "take", "13 -", "make k1 bob 0 999 gate r1"+outer, "12", "take", "12 -")
		// What is refused answers no question.
		wantSteps(t, append(pairs, "tick 158", "ok", "take", "12 -", "make k6 bob 0 999 gate r1"+outer, "12", "take", "13 -", "tick 1", "ok", "take", "0 bob", "make k5 eve 0 999 gate r1"+outer, "12", "take", "11 -")...)
	}
}

func TestBenchEdits(t *testing.T) {
	for _, c := range []struct {
		made  string
		edits []string
		take  string
	}{
		// Sealed within or outside, these are told alike.
		{"make k1 ann 100 200 gate r1 0", []string{"wrap 1 x"}, "5 -"}, {"make k1 ann 100 200 gate r1 1", []string{"wrap 1 x"}, "5 -"}, {"make k1 ann 100 200 gate r1 0", []string{"prune 1"}, "5 -"}, {"make k1 ann 100 200 gate r1 1", []string{"prune 1"}, "5 -"},
		{"make k1 ann 100 200 gate r1 0", []string{"graft 0 1"}, "4 -"}, {"make k1 ann 100 200 gate r1 1", []string{"graft 0 0"}, "4 -"}, {"make k1 ann 100 200 gate r1 0", []string{"graft 0 4"}, "3 -"}, {"make k1 ann 100 200 gate r1 1", []string{"wrap 4 q:x"}, "3 -"},
		{"make k1 ann 100 200 gate r1 0", []string{"prune 4"}, "6 -"}, {"make k1 ann 100 200 gate r1 1", []string{"prune 5"}, "6 -"}, {"make k1 ann 100 200 gate r1 0", []string{"graft 1 9"}, "6 -"}, {"make k1 ann 100 200 gate r1 1", []string{"wrap 6 c:Term"}, "6 -"},
		{"make k1 ann 100 200 gate r1 0", []string{"prune 9"}, "8 -"}, {"make k1 ann 100 200 gate r1 1", []string{"wrap 9 l:x"}, "8 -"}, {"make k1 ann 100 200 gate r1 0", []string{"prune 11"}, "8 -"}, {"make k1 ann 100 200 gate r1 1", []string{"prune 11"}, "8 -"},
		{"make k1 ann 100 200 gate r1 0", []string{"graft 0 1", "prune 1"}, "0 ann"}, {"make k1 ann 100 200 gate r1 1", []string{"graft 0 11", "prune 11"}, "0 ann"}, {"make k1 ann 100 200 gate r1 0", []string{"wrap 1 x", "graft 0 2", "prune 1"}, "0 ann"},
		// Around the Claim alone anything may stand; into the whole nothing may come.
		{"make k1 ann 100 200 gate r1 0", []string{"graft 0 11"}, "0 ann"}, {"make k1 ann 100 200 gate r1 1", []string{"graft 0 11"}, "8 -"},
		// Passed over.
		{"make k1 ann 100 200 gate r1 0", []string{"prune 0", "prune 12", "prune -1", "prune 9999999999", "prune -9999999999", "prune 4294967297", "graft 0 12", "graft 12 1", "graft 3 1", "graft 1 3", "graft -1 -1", "graft 9999999999 -9999999999", "wrap 0 x", "wrap 3 x", "wrap 12 x", "wrap 1 1", "wrap 1 abcdefghijk", "wrap 1 -", "wrap -9999999999 x", "wrap 1 \xff", "wrap 1 a:b:c", "wrap 1 <x>"}, "0 ann"},
		{"make k1 ann 100 200 gate r1 1", []string{"prune 0", "graft 0 3", "wrap 0 x", "wrap 99 x", "wrap 1 :"}, "0 ann"},
	} {
		pairs := []string{"tick 150", "ok", "ask r1 90", "0", c.made, "12"}
		for _, line := range c.edits {
			pairs = append(pairs, line, "ok")
		}
		// Made anew it is as it was at first.
		again := "0 ann"
		if c.take == "0 ann" {
			again = "11 -"
		}
		wantSteps(t, append(pairs, "take", c.take, c.made, "12", "take", again)...)
	}
}

// The letter stands as it was where an Edit is passed over and where a make is refused; and a take leaves it there.
func TestBenchLetterStandsAsItWas(t *testing.T) {
	const whole, claim = "301 998996876", "180 248290203"
	pairs := []string{"make k1 ann 100 200 gate - 1", "10"}
	for _, line := range []string{"prune 0", "prune 10", "graft 3 1", "graft 0 3", "wrap 0 x", "wrap 1 1"} {
		pairs = append(pairs, line, "ok", "canon 0", whole, "canon 1", claim)
	}
	for _, line := range []string{"make K ann 100 200 gate - 0", "make outer ann 100 200 gate - 1", "make k2 bob -1 200 gate - 0", "make k2 bob 100 200 gate - 2", "make k2 bob 100 200 gate", "make k2 b_b 100 200 gate - 0", "make k2 bob 100 200 g/te - 1", "make k2 bob 100 200 gate R 0", "make", "prune", "prune x", "graft 0", "wrap 1", "canon 99", "tick -1", "ask R 9", "what"} {
		pairs = append(pairs, line, "error", "canon 0", whole)
	}
	pairs = append(pairs, "take", "9 -", "canon 0", whole, "tick 100", "ok", "take", "0 ann", "canon 0", whole, "take", "12 -", "canon 1", claim, "prune 9", "ok", "canon 0", canonTold(strings.ReplaceAll(`<l:Letter ns:l="claim" Id="outer"><c:Claim ns:c="claim" Id="k1"><c:Issuer>idp</c:Issuer><c:Subject>ann</c:Subject><c:Term From="#:01:40Z" To="#:03:20Z"></c:Term><c:For>gate</c:For></c:Claim></l:Letter>`, "#", "2000-01-01T00")))
	wantSteps(t, pairs...)
}

// What is refused at one line changes nothing for those behind it.
func TestBenchRefusalsChangeNothing(t *testing.T) {
	before := []string{"tick 150", "ask r1 90", "make k1 ann 100 200 gate r1 1"}
	behind := []string{"canon 0", "canon 1", "ask r1 1", "ask r2 1", "take", "take", "ask r1 1", "tick 1", "ask r2 1"}
	answers := strings.SplitAfter("ok\n0\n12\n326 1495359616\n205 2113215231\n1\n0\n0 ann\n11 -\n0\nok\n0\n", "\n")
	wantBench(t, strings.Join(slices.Concat(before, behind), "\n"), strings.Join(answers, ""))
	chunk := impl.MaxLines - len(before) - len(behind)
	count := 0
	for wrong := range slices.Chunk(wrongLines(), chunk) {
		text := strings.Join(slices.Concat(before, wrong, behind), "\n")
		want := strings.Join(answers[:len(before)], "") + strings.Repeat("error\n", len(wrong)) + strings.Join(answers[len(before):], "")
		if len(text) > impl.MaxBench {
			t.Fatalf("%d bytes are too many", len(text))
		}
		wantBench(t, text, want)
		count += len(wrong)
	}
	if count < 1000 {
		t.Errorf("only %d were wrong", count)
	}
}

// rightLines has one of each kind; where a letter lies there, none of them is an error.
func rightLines() []string {
	return []string{"tick 5", "ask r3 9", "make k1 ann 100 200 gate r1 1", "make k1 ann 100 200 gate - 0", "prune 1", "graft 0 1", "wrap 1 x", "take", "canon 1", "at 5", "key 65521 40009 17"}
}

func noNumbers() []string {
	return []string{
		"", "-", "--5", "-0", "+5", "+0", "00", "05", "-05", "000000000005", "5-", "5x", "x5", "x", "5.0", "5.", ".5", "5,0", "0x5", "1e3", "1_0", "5\t", "\t5", "5\r", "\x005", "5\x00", "5\xff", "\u0665", "\uff15", "\u22125", "/", ":", "5/", "5:",
		"10000000000", "-10000000000", "12345678901", "01234567890", "00000000005", "4294967296000", "18446744073709551621", "-18446744073709551611", "9223372036854775808", strings.Repeat("9", 200),
	}
}

// replacedWords are lines with the word at this place replaced by each of these.
func replacedWords(line string, at int, by []string) []string {
	var list []string
	for _, word := range by {
		words := strings.Split(line, " ")
		words[at] = word
		// What is told apart otherwise, or is too long for a bench, is no other word here.
		if !strings.ContainsAny(word, "\n") && len(word) < 300 {
			list = append(list, strings.Join(words, " "))
		}
	}
	return list
}

// spoiledLines have words that no table has, a word too many or too few, or blanks where there should be none.
func spoiledLines(line string) []string {
	words := strings.Split(line, " ")
	list := []string{line + " ", " " + line, line + " 5", line + " x", line + " -", line + "\r", line + "\t", line + " " + line, "5 " + line, strings.ToUpper(line[:1]) + line[1:], "x" + line, line[1:], line + "\x00", "\xff" + line, "\ufeff" + line, strings.Join(slices.Insert(slices.Clone(words), 1, "0"), " "), strings.Join(words, "  "), strings.Join(words, "\u00a0") + "\u00a0"}
	for at := range words {
		if short := strings.Join(slices.Delete(slices.Clone(words), at, at+1), " "); short != "" {
			list = append(list, short)
		}
		if at > 0 {
			for _, blank := range []string{"  ", "\t", ",", "", " \t", "\r", "\x00", "\u00a0"} {
				list = append(list, strings.Join(words[:at], " ")+blank+strings.Join(words[at:], " "))
			}
			list = append(list, strings.Join(words[:at], " ")+" ")
		}
	}
	// A name that is none is passed over: no error.
	return slices.DeleteFunc(list, func(s string) bool {
		name, is := strings.CutPrefix(s, "wrap 1 ")
		return s == line || is && name != "" && !strings.Contains(name, " ")
	})
}

// wrongLines are errors, whatever stood ahead of them.
func wrongLines() []string {
	list := []string{" ", "  ", "\t", "\r", "\x00", "\xff", "what", "ok", "error", "-", "0", "5", "tick5", "tick-5", "take0", "tick;at 5", "give", "other 0 1", "edit 1", "hold r1", "help", "quit", "bench", "#", "# tick 5", "//", "letter", "claim", "seal", "gate", strings.Repeat("tick ", 60), strings.Repeat("x", 400)}
	for _, line := range rightLines() {
		list = append(list, spoiledLines(line)...)
	}
	for line, places := range map[string][]int{"tick 5": {1}, "ask r3 9": {2}, "make k1 ann 100 200 gate r1 1": {3, 4, 7}, "make k2 ann 100 200 gate - 0": {3, 4, 7}, "prune 1": {1}, "graft 0 1": {1, 2}, "wrap 1 x": {1}, "canon 1": {1}, "at 5": {1}, "key 65521 40009 17": {1, 2, 3}} {
		for _, at := range places {
			list = append(list, replacedWords(line, at, noNumbers())...)
		}
	}
	times := []string{"-1", "3155760000", "9999999999", "-9999999999", "-3155759999", "4294967396"}
	for _, line := range []string{"make k2 bob 100 200 gate r1 1", "make k2 bob 100 200 gate - 0"} {
		list = append(list, replacedWords(line, 1, append(noIds(), "outer"))...)
		list = append(list, replacedWords(line, 2, noWords())...)
		list = append(list, replacedWords(line, 3, times)...)
		list = append(list, replacedWords(line, 4, times)...)
		list = append(list, replacedWords(line, 5, noWords())...)
		list = append(list, replacedWords(line, 6, slices.DeleteFunc(append(noIds(), "--", "R1", "-r1", "r1-"), func(s string) bool { return s == "-" }))...)
		list = append(list, replacedWords(line, 7, []string{"2", "-1", "10", "01", "true", "false", "yes", "-", "256", "257", "4294967296", "4294967297", "9999999999"})...)
	}
	list = append(list, replacedWords("ask r3 9", 1, noIds())...)
	list = append(list, replacedWords("ask r3 9", 2, []string{"3155760000", "-3155760000", "9999999999", "-9999999999"})...)
	list = append(list, replacedWords("tick 5", 1, []string{"-1", "-5", "-3155759999", "3155760000", "4294967301", "9999999999", "-9999999999"})...)
	list = append(list, replacedWords("at 5", 1, []string{"-1", "3155760000", "4294967301", "9999999999"})...)
	list = append(list, replacedWords("canon 1", 1, []string{"-1", "3", "5", "8", "10", "12", "13", "4294967297", "257", "9999999999"})...)
	for at := 1; at <= 3; at++ {
		list = append(list, replacedWords("key 65521 40009 17", at, []string{"0", "1", "2", "4", "16", "65519000", "65537000", "-17", "-65521", "4294967313", "4295032817", "9999999999", "-9999999999"})...)
	}
	return list
}

func TestBenchNumbersOfTenDigits(t *testing.T) {
	made := []string{"make k1 ann 100 200 gate - 0", "10"}
	for _, line := range []string{"prune %s", "graft %s 1", "graft 0 %s", "wrap %s x"} {
		for _, number := range []string{"9999999999", "1000000000", "4294967297", "-9999999999", "-1000000000", "-1"} {
			wantSteps(t, append(slices.Clip(made), fmt.Sprintf(line, number), "ok", "canon 1", "253 511294742")...)
		}
		for _, number := range []string{"10000000000", "99999999999", "-10000000000", "00000000001", "-00000000001", "0000000001", "01", "-01", "-0"} {
			wantSteps(t, append(slices.Clip(made), fmt.Sprintf(line, number), "error", "canon 1", "253 511294742")...)
		}
	}
	wantSteps(t, "tick 1000000000", "ok", "make k1 ann 1000000059 1000000060 gate - 0", "10", "take", "0 ann", "at 1000000000", expectedTimeText(1000000000), "tick 2155759999", "ok", "make k2 bob 0 3155759999 gate - 1", "10", "take", "9 -", "ask r1 0", "0", "tick 3155759999", "ok", "ask r1 0", "0", "ask r2 -3155759999", "0")
}

// Time goes by no further than to its end, and not back.
func TestBenchTimeAtItsEnds(t *testing.T) {
	wantSteps(t, "make k1 ann 0 3155759999 gate - 0", "10", "tick 3155759999", "ok", "take", "9 -", "tick 3155759999", "ok", "tick 0", "ok", "tick -1", "error", "take", "9 -")
	wantSteps(t, "make k1 ann 3155759999 3155759999 gate - 0", "10", "tick 3155759938", "ok", "take", "9 -", "tick 1", "ok", "take", "0 ann", "tick 59", "ok", "take", "12 -", "tick 1", "ok", "take", "9 -")
	wantSteps(t, "tick 3155759990", "ok", "ask r1 3155759999", "0", "tick 8", "ok", "ask r1 9", "1", "tick 1", "ok", "ask r1 9", "0", "ask r1 9", "1", "tick 5", "ok", "ask r1 9", "0")
}

func TestBenchLettersAtTheLimits(t *testing.T) {
	// One in another: each wrap as deep as there is room, from then on passed over.
	pairs := []string{"make k1 ann 100 200 gate - 0", "10"}
	for range 9 {
		pairs = append(pairs, "wrap 1 x", "ok")
	}
	const claim = `<c:Claim ns:c="claim" Id="k1"><c:Issuer>idp</c:Issuer><c:Subject>ann</c:Subject><c:Term From="2000-01-01T00:01:40Z" To="2000-01-01T00:03:20Z"></c:Term><c:For>gate</c:For><s:Seal ns:s="seal" Ref="k1" Sign="1508282063" Sum="0248290203"></s:Seal></c:Claim>`
	wantSteps(t, append(pairs, "canon 1", canonTold(strings.Repeat("<x>", 5)+claim+strings.Repeat("</x>", 5)), "canon 5", canonTold("<x>"+claim+"</x>"), "canon 6", canonTold(claim), "take", "5 -")...)
	// 50 Nodes: what would be one more is passed over.
	pairs = []string{"make k1 ann 100 200 gate - 0", "10", "tick 100", "ok"}
	for range 45 {
		pairs = append(pairs, "graft 0 9", "ok")
	}
	const seal = `<s:Seal ns:s="seal" Ref="k1" Sign="1508282063" Sum="0248290203"></s:Seal>`
	full := canonTold(`<l:Letter ns:l="claim" Id="outer">` + claim + strings.Repeat(seal, 40) + `</l:Letter>`)
	wantSteps(t, append(pairs, "canon 0", full, "wrap 1 x", "ok", "canon 0", full, "canon 49", canonTold(seal), "canon 50", "error", "take", "0 ann", "prune 49", "ok", "canon 49", "error", "take", "12 -", "wrap 48 x", "ok", "canon 48", canonTold("<x>"+seal+"</x>"), "canon 49", canonTold(seal))...)
}

// longLetter is one of so many bytes more than 3978 that it shows, of a Letter and 47 seals, one of them wrapped twice.
func longLetter(names ...string) []string {
	pairs := []string{"make k00000000001 ann 100 200 gate - 0", "10", "graft 0 9", "ok", "prune 1", "ok"}
	for range 46 {
		pairs = append(pairs, "graft 0 1", "ok")
	}
	for _, name := range names {
		pairs = append(pairs, "wrap 1 "+name, "ok")
	}
	return pairs
}

// What is longer than a letter may be is not sent, so that no tree is read.
func TestBenchTakesNoLongerLetter(t *testing.T) {
	const most, more = "4000 ", "4002 "
	for _, c := range []struct {
		names       []string
		bytes, take string
	}{
		{nil, "3946 ", "5 -"}, {[]string{"l:abcdefghij"}, "3975 ", "5 -"}, {[]string{"l:abcdefghij", "abcdefghij"}, most, "5 -"}, {[]string{"l:abcdefghij", "l:abcdefghi"}, more, "2 -"}, {[]string{"l:abcdefghij", "l:abcdefghij"}, "4004 ", "2 -"},
	} {
		pairs := append(longLetter(c.names...), "take", c.take, "canon 0", "")
		text := ""
		for at := 0; at < len(pairs); at += 2 {
			text += pairs[at] + "\n"
		}
		whole := strings.SplitAfter(expectedBench(byOracles, text), "\n")
		pairs[len(pairs)-1] = strings.TrimSuffix(whole[len(whole)-2], "\n")
		if !strings.HasPrefix(pairs[len(pairs)-1], c.bytes) {
			t.Errorf("by %q it shows as %q, not %q", c.names, pairs[len(pairs)-1], c.bytes)
		}
		wantSteps(t, append(pairs, "prune 1", "ok", "prune 1", "ok", "take", "5 -", "make k1 ann 0 99 gate - 0", "10", "take", "0 ann")...)
	}
}

func TestBenchOfMostBytes(t *testing.T) {
	const line, answer = "at 0\n", "2000-01-01T00:00:00Z\n"
	for _, c := range []struct {
		text, want string
	}{
		{line + strings.Repeat("x", 19995), answer + "error\n"}, {line + strings.Repeat("x", 19996), ""}, {line + strings.Repeat("x", 19994) + "\n", answer + "error\n"}, {line + strings.Repeat("x", 19995) + "\n", ""},
		{strings.Repeat("x", 19994) + "\n" + line, "error\n" + answer}, {strings.Repeat("x", 19995) + "\n" + line, ""}, {strings.Repeat("x", 20000), "error\n"}, {strings.Repeat("x", 20001), ""}, {strings.Repeat("\xff", 20000), "error\n"}, {strings.Repeat("\xff", 20001), ""}, {strings.Repeat("\u00e9", 10000), "error\n"}, {strings.Repeat("\u00e9", 10001), ""},
		{line + strings.Repeat("x", 65536), ""}, {line + strings.Repeat("x", 65536+10), ""}, {line + strings.Repeat("\n", 65536), ""}, {strings.Repeat(line, 40000), ""}, {strings.Repeat(" ", 1<<20), ""}, {strings.Repeat("take ", 4000), "error\n"}, {strings.Repeat("\x00", 20000), "error\n"},
		{strings.Repeat(strings.Repeat("x", 99)+"\n", 200), strings.Repeat("error\n", 200)}, {strings.Repeat(strings.Repeat("x", 99)+"\n", 200) + "\n", ""}, {strings.Repeat(strings.Repeat("x", 99)+"\n", 199) + strings.Repeat("x", 100), strings.Repeat("error\n", 200)}, {strings.Repeat(strings.Repeat("x", 99)+"\n", 199) + strings.Repeat("x", 101), ""},
		{line + "at " + strings.Repeat("0", 19991) + "5", answer + "error\n"}, {line + "wrap 1 " + strings.Repeat("x", 19988), answer + "error\n"},
	} {
		wantBench(t, c.text, c.want)
	}
	// Both limits are met at once.
	all := strings.Repeat("x", 20000-199*5) + "\n" + strings.Repeat(line, 199)
	wantBench(t, all, "")
	wantBench(t, all[1:], "error\n"+strings.Repeat(answer, 199))
	wantBench(t, all[1:]+"\n", "")
	wantBench(t, all[1:len(all)-1], "error\n"+strings.Repeat(answer, 199))
}

func TestBenchOfMostLines(t *testing.T) {
	const line, answer = "at 0\n", "2000-01-01T00:00:00Z\n"
	for count := range 300 {
		want := ""
		if count <= 200 {
			want = strings.Repeat(answer, count)
		}
		wantBench(t, strings.Repeat(line, count), want)
		wantBench(t, strings.TrimSuffix(strings.Repeat(line, count), "\n"), want)
		wantBench(t, strings.Repeat("\n", count), "")
		// Lines without a byte have no answer, and count.
		one := ""
		if count < 200 {
			one = answer
		}
		for _, text := range []string{line + strings.Repeat("\n", count), strings.Repeat("\n", count) + line, strings.Repeat("\n", count) + "at 0", strings.Repeat("\n", count/2) + line + strings.Repeat("\n", count-count/2)} {
			wantBench(t, text, one)
		}
	}
	for _, count := range []int{456, 512, 4000, 9999, 10000, 20000} {
		wantBench(t, strings.Repeat("\n", count), "")
		wantBench(t, strings.Repeat("x\n", min(count, 10000)), "")
	}
}

// Passed over are lines without a byte, and no others; a carriage's return is a byte as others are.
func TestBenchLinesWithoutAByte(t *testing.T) {
	for text, want := range map[string]string{
		"": "", "\n": "", "\n\n\n": "", "take": "error\n", "take\n": "error\n", "take\n\n": "error\n", "\ntake": "error\n", "\n\n\ntake\n\n\n": "error\n", "tick 5\n\nat 5": "ok\n2000-01-01T00:00:05Z\n", "tick 5\n \nat 5\n": "ok\nerror\n2000-01-01T00:00:05Z\n",
		" ": "error\n", " \n": "error\n", "\n ": "error\n", "\r\n": "error\n", "\r": "error\n", "\x00": "error\n", "\t\n": "error\n", "at 5\r\nat 5": "error\n2000-01-01T00:00:05Z\n", "at 5\rat 5": "error\n", "at 5\vat 5": "error\n", "at 5\fat 5": "error\n", "at 5\u2028at 5": "error\n", "at 5\u0085at 5": "error\n",
		"at\n5": "error\nerror\n", "at \n5": "error\nerror\n", "at 5\n\n\n\nat 6\n\n": "2000-01-01T00:00:05Z\n2000-01-01T00:00:06Z\n", "\nat 5": "2000-01-01T00:00:05Z\n",
	} {
		wantBench(t, text, want)
	}
}

// Bytes of every kind, ahead of, within, behind and in place of those of a line.
func TestBenchOfBytesOfEveryKind(t *testing.T) {
	const before, behind = "make k1 ann 100 200 gate - 0\n", "\ncanon 1\nask r3 9"
	for b := range 256 {
		one := oneByte(b)
		wantBench(t, one, strings.TrimPrefix("error\n", strings.Repeat("error\n", strings.Count(one, "\n"))))
		for _, line := range []string{"tick 5", "ask r3 9", "wrap 1 x", "take"} {
			for at := range len(line) + 1 {
				texts := []string{before + line[:at] + one + line[at:] + behind}
				if at < len(line) {
					texts = append(texts, before+line[:at]+one+line[at+1:]+behind)
				}
				for _, text := range texts {
					// This is asked of so many that the chapters' own functions have to do.
					if got, want := impl.Bench(text), expectedBench(byProgram, text); got != want {
						t.Errorf("Bench(%q) = %q, not %q", text, got, want)
					}
				}
			}
		}
		if t.Failed() {
			t.FailNow()
		}
	}
	for seed := range 300 {
		next := dice(seed)
		text := strewnText(next, allBytes(), 400)
		wantBench(t, text, expectedBench(byProgram, text))
	}
}

func strewnPlace(next func(int) int) string {
	return fmt.Sprint([]int{next(14), next(14), next(14), next(50), next(4) - 2}[next(5)])
}

// strewnLine is mostly one that is no error, of few Ids, questions and times, so that these meet.
func strewnLine(next func(int) int) string {
	one := func(of ...string) string { return of[next(len(of))] }
	switch next(14) {
	case 0:
		return "tick " + one("0", "1", "5", "20", "60", "100", "-1")
	case 1, 2:
		return "ask " + one("r1", "r2", "r3", "r4", "r5", "R") + " " + one("0", "30", "90", "400", "-5")
	case 3, 4, 5:
		return "make " + one("k1", "k2", "k3", "k4", "k5", "outer") + " " + one("ann", "bob", "eve@x.org") + " " + one("0", "0", "50", "100", "200") + " " + one("90", "200", "250", "300", "900") + " " + one("gate", "gate", "gate", "gate", "door") + " " + one("-", "-", "-", "r1", "r2") + " " + one("0", "1")
	case 6:
		return "prune " + strewnPlace(next)
	case 7:
		return "graft " + one("0", "0", "1", strewnPlace(next)) + " " + one("1", "9", "11", strewnPlace(next))
	case 8:
		return "wrap " + strewnPlace(next) + " " + one("x", "x", "c:Claim", "l:Claim", "c:Subject", "q:x", "l:Letter", "1")
	case 9:
		return "canon " + strewnPlace(next)
	case 10:
		return one("at 100", "at 3155759999", "key 65521 40009 17", "key 46349 46351 7", "", "at "+fmt.Sprint(next(lastTime)))
	}
	return "take"
}

// spoiledLine has some byte, or some word, changed, left out or put in.
func spoiledLine(next func(int) int, line string) string {
	words := strings.Split(line, " ")
	word, at := next(len(words)), next(len(line)+1)
	switch next(6) {
	case 0:
		words[word] = noNumbers()[next(len(noNumbers()))]
	case 1:
		words = slices.Delete(words, word, word+1)
	case 2:
		words = slices.Insert(words, word, []string{"", "0", "x", "-"}[next(4)])
	case 3:
		return line[:at] + oneByte(next(256)) + line[at:]
	case 4:
		return line[:at]
	default:
		words[word] = []string{"2", "-1", "9999999999", "K1", "g-te", "-"}[next(6)]
	}
	return strings.Join(words, " ")
}

func strewnBench(next func(int) int, most int) string {
	var lines []string
	for range 1 + next(most) {
		line := strewnLine(next)
		if next(12) == 0 {
			line = spoiledLine(next, line)
		}
		lines = append(lines, line)
		if strings.HasPrefix(line, "make ") && next(2) == 0 {
			lines = append(lines, "take")
		}
	}
	return strings.Join(lines, "\n") + []string{"", "\n", "\n\n"}[next(3)]
}

// countedTakes tells how often which answer to a take, and how many errors, stand in answers.
func countedTakes(counts map[string]int, text, answers string) {
	told := strings.Split(answers, "\n")
	for _, line := range strings.Split(text, "\n") {
		if line == "" {
			continue
		}
		if code, rest, is := strings.Cut(told[0], " "); line == "take" && is && (rest == "-") != (code == "0") {
			counts[code]++
		} else if told[0] == "error" {
			counts["error"]++
		}
		told = told[1:]
	}
}

// Promise 20: line by line what the chapters tell, first by what is expected of them, then by their own functions.
func TestBenchTellsWhatTheChaptersTell(t *testing.T) {
	counts := map[string]int{}
	for seed := range 80 {
		text := strewnBench(dice(seed), 60)
		want := expectedBench(byOracles, text)
		wantBench(t, text, want)
		countedTakes(counts, text, want)
		if t.Failed() {
			t.FailNow()
		}
	}
	for seed := 1000; seed < 1500; seed++ {
		next := dice(seed)
		text := strewnBench(next, 130)
		want := expectedBench(byProgram, text)
		if got := impl.Bench(text); got != want {
			t.Fatalf("Bench(%q) = %q, not %q", text, got, want)
		}
		countedTakes(counts, text, want)
		// What comes later changes no answer before.
		if at := next(len(text)); want != "" && !strings.HasPrefix(want, impl.Bench(text[:1+strings.LastIndex(text[:at], "\n")])) {
			t.Fatalf("of the first %d bytes of %q is told %q", at, text, impl.Bench(text[:at]))
		}
	}
	for _, code := range []string{"0", "3", "4", "5", "6", "8", "9", "10", "11", "12", "13", "error"} {
		if counts[code] < 10 {
			t.Errorf("only %d were told %s", counts[code], code)
		}
	}
}

// Promise 20, by hand: what the chapters' own functions tell, one behind the other.
func TestBenchIsTheChaptersOneBehindTheOther(t *testing.T) {
	k, _ := impl.KeyOf(65521, 40009, 17)
	g, ok := impl.NewGate("gate", []impl.Hand{{Issuer: "idp", Key: impl.Public(k)}}, 60, 4)
	if !ok || !sameGate(g, benchGate()) {
		t.Fatalf("the gate is %+v", g)
	}
	c := impl.Claim{Id: "k1", Issuer: "idp", Subject: "ann", From: 100, To: 200, For: "gate", Answers: "r1"}
	for _, outer := range []bool{false, true} {
		made := mustMake(t, k, c, "outer", outer)
		g, _ := impl.Ticked(g, 150)
		g, _ = impl.Asks(g, "r1", impl.Later(g.Now, 90))
		more := mustEdit(t, made, made, graft(0, int64(len(made))-1))
		moved := mustEdit(t, more, more, prune(int64(len(made))-1))
		pairs := []string{"tick 150", "ok", "ask r1 90", "0", "make k1 ann 100 200 gate r1 " + fmt.Sprint(placeOf(!outer)), fmt.Sprint(len(made)), "graft 0 11", "ok"}
		for at := range more {
			pairs = append(pairs, fmt.Sprint("canon ", at), "error")
			if canon := impl.Canon(more, int64(at), -1); canon != "" {
				pairs[len(pairs)-1] = fmt.Sprint(len(canon), " ", impl.Hash(canon))
			}
		}
		for _, nodes := range [][]impl.Node{more, moved, moved} {
			next, said, code := impl.Consumed(g, impl.Sent(nodes))
			pairs = append(pairs, "take", fmt.Sprint(code, " ", cmp.Or(said.Subject, "-")))
			if len(nodes) == len(more) {
				pairs = append(pairs, "prune 11", "ok")
			}
			g = next
		}
		wantSteps(t, append(pairs, "at 150", impl.TimeText(150), "key 65521 40009 17", fmt.Sprint(k.N, " ", k.D))...)
	}
}

// Promise 21 for chapter 20: nothing of the text lies in the answer, nothing is written into it, and nothing is kept.
func TestBenchIsNewMemoryAndTheTextStays(t *testing.T) {
	texts := append(wrongLines()[:200], rightLines()...)
	for seed := range 200 {
		texts = append(texts, strewnBench(dice(seed), 40))
	}
	texts = append(texts, "", "\n", strings.Repeat("at 0\n", 200), strings.Repeat("at 0\n", 201), strings.Repeat("x", 20000), strings.Repeat("x", 20001), "tick 150\nask r1 90\nmake k1 ann 100 200 gate r1 0\ntake\ntake", allBytes())
	for _, given := range texts {
		text, buffer := laid(given)
		got := impl.Bench(text)
		again := impl.Bench(text)
		if got != again || sharesMemory(got, again) || sharesMemory(got, text) || sharesMemory(again, text) {
			t.Errorf("Bench(%q) tells %q, then %q, or both lie in one memory", given, got, again)
		}
		if string(buffer) != given+"spare room" || text != given {
			t.Errorf("the text %q became %q", given, buffer)
		}
		before := strings.Clone(got)
		clear(buffer)
		if got != before {
			t.Errorf("the answer %q became %q with its text", before, got)
		}
	}
}

// Promise 21 for chapter 20: one bench knows nothing of another one, before it or beside it.
func TestBenchesStandApart(t *testing.T) {
	var texts, wants []string
	for seed := range 24 {
		text := strewnBench(dice(seed), 60)
		texts, wants = append(texts, text), append(wants, expectedBench(byProgram, text))
	}
	var all sync.WaitGroup
	for worker := range 8 {
		all.Go(func() {
			for i := range 2 * len(texts) {
				at := (i*(2*worker+1) + worker) % len(texts)
				if got := impl.Bench(texts[at]); got != wants[at] {
					t.Errorf("beside others Bench(%q) = %q, not %q", texts[at], got, wants[at])
				}
			}
		})
	}
	all.Wait()
}
