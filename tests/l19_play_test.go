package tests

import (
	"cmp"
	"fmt"
	"math"
	"runtime"
	"slices"
	"strings"
	"testing"
	"time"

	"loop.example/g00379/impl"
)

const (
	mostEdits = 20
	mostActs  = 60
)

func prune(at int64) impl.Edit { return impl.Edit{Kind: 1, At: at} }

func graft(at, from int64) impl.Edit { return impl.Edit{Kind: 2, At: at, From: from} }

func graftOther(at, from int64) impl.Edit { return impl.Edit{Kind: 3, At: at, From: from} }

func wrap(at int64, name string) impl.Edit { return impl.Edit{Kind: 4, At: at, Name: name} }

func tick(by int64) impl.Act { return impl.Act{Kind: 1, By: by} }

func ask(id string, by int64) impl.Act { return impl.Act{Kind: 2, Id: id, By: by} }

func take(letters string) impl.Act { return impl.Act{Kind: 3, Text: letters} }

func expectedEdit(t, other []impl.Node, e impl.Edit) []impl.Node {
	of := t
	switch e.Kind {
	case 1:
		t, _ = expectedPruned(t, e.At)
	case 3:
		of = other
		fallthrough
	case 2:
		if branch, ok := expectedBranch(of, e.From); ok {
			t, _ = expectedGrafted(t, e.At, branch)
		}
	case 4:
		t, _ = expectedWrapped(t, e.At, e.Name)
	}
	return t
}

func expectedEdited(t, other []impl.Node, list []impl.Edit) ([]impl.Node, bool) {
	if !expectedTreeOk(t) || !expectedTreeOk(other) || len(list) > mostEdits {
		return nil, false
	}
	for _, e := range list {
		t = expectedEdit(t, other, e)
	}
	return t, true
}

func expectedHappen(g impl.Gate, a impl.Act) (impl.Gate, impl.Claim, int64) {
	if !expectedGateOk(g) {
		return impl.Gate{}, impl.Claim{}, -2
	}
	switch a.Kind {
	case 1:
		if later, ok := expectedTicked(g, a.By); ok {
			return later, impl.Claim{}, 0
		}
		return g, impl.Claim{}, 1
	case 2:
		asking, code := expectedAsks(g, a.Id, expectedLater(g.Now, a.By))
		if code == 3 {
			return g, impl.Claim{}, 3
		}
		return asking, impl.Claim{}, code
	case 3:
		return expectedConsumed(g, a.Text)
	}
	return g, impl.Claim{}, -1
}

func expectedPlay(g impl.Gate, list []impl.Act) (impl.Gate, []impl.Claim) {
	if !expectedGateOk(g) || len(list) > mostActs {
		return impl.Gate{}, nil
	}
	var said []impl.Claim
	for _, a := range list {
		next, c, code := expectedHappen(g, a)
		if a.Kind == 3 && code == 0 {
			said = append(said, c)
		}
		g = next
	}
	return g, said
}

func expectedSealParts(t []impl.Node, seal int64) []string {
	if seal < 1 || seal >= int64(len(t)) || !expectedNamesOk(t) || !expectedIdsOk(t) {
		return nil
	}
	words, is := expectedSeal(t, seal)
	if !is || !slices.Contains(expectedIds(t)[words["Ref"]], t[seal].Parent) {
		return nil
	}
	return []string{expectedCanon(t, t[seal].Parent, seal), expectedSpoken(words["Ref"], words["Sum"])}
}

func wantEdited(t *testing.T, nodes, other []impl.Node, list []impl.Edit, want answer) {
	t.Helper()
	if got := told(expectedEdited(nodes, other, list)); got.ok != want.ok || !sameTree(got.nodes, want.nodes) {
		t.Errorf("of %+v, %+v, %+v the oracle says %+v, not %+v", nodes, other, list, got, want)
	}
	if got := told(impl.Edited(nodes, other, list)); got.ok != want.ok || !sameTree(got.nodes, want.nodes) {
		t.Errorf("Edited(%+v, %+v, %+v) = %+v, not %+v", nodes, other, list, got, want)
	}
}

func wantHappen(t *testing.T, g impl.Gate, a impl.Act, want impl.Gate, said impl.Claim, code int64) {
	t.Helper()
	if got, c, told := expectedHappen(g, a); told != code || !sameClaim(c, said) || !sameGate(got, want) {
		t.Errorf("of %+v, %+v the oracle says %+v, %+v, %d, not %d", g, a, got, c, told, code)
	}
	if got, c, told := impl.Happen(g, a); told != code || !sameClaim(c, said) || !sameGate(got, want) {
		t.Errorf("Happen(%+v, %+v) = %+v, %+v, %d, not %+v, %+v, %d", g, a, got, c, told, want, said, code)
	}
}

func sameClaims(a, b []impl.Claim) bool { return slices.EqualFunc(a, b, sameClaim) }

func wantPlay(t *testing.T, g impl.Gate, list []impl.Act, want impl.Gate, said ...impl.Claim) {
	t.Helper()
	if got, claims := expectedPlay(g, list); !sameClaims(claims, said) || !sameGate(got, want) {
		t.Errorf("of %+v, %+v the oracle says %+v, %+v, not %+v, %+v", g, list, got, claims, want, said)
	}
	if got, claims := impl.Play(g, list); !sameClaims(claims, said) || !sameGate(got, want) {
		t.Errorf("Play(%+v, %+v) = %+v, %+v, not %+v, %+v", g, list, got, claims, want, said)
	}
}

func wantSealParts(t *testing.T, nodes []impl.Node, seal int64, want ...string) {
	t.Helper()
	if got := expectedSealParts(nodes, seal); !slices.Equal(got, want) {
		t.Errorf("of %+v, %d the oracle says %q, not %q", nodes, seal, got, want)
	}
	if got := impl.SealParts(nodes, seal); !slices.Equal(got, want) {
		t.Errorf("SealParts(%+v, %d) = %q, not %q", nodes, seal, got, want)
	}
}

// checkSealParts asks of each Node, and at some indexes that are none; it tells of how many there are parts.
func checkSealParts(t *testing.T, nodes []impl.Node) int {
	t.Helper()
	count := 0
	for at := int64(-2); at <= int64(len(nodes))+1; at++ {
		var want []string
		// What is not named so is no seal: of that the oracle need not be asked.
		if at >= 0 && at < int64(len(nodes)) && strings.HasSuffix(nodes[at].Name, "Seal") {
			want = expectedSealParts(nodes, at)
		}
		if got := impl.SealParts(nodes, at); !slices.Equal(got, want) {
			t.Errorf("SealParts(%+v, %d) = %q, not %q", nodes, at, got, want)
		}
		count += len(want) / 2
	}
	return count
}

func mustEdit(t *testing.T, nodes, other []impl.Node, list ...impl.Edit) []impl.Node {
	t.Helper()
	edited, ok := impl.Edited(nodes, other, list)
	if !ok {
		t.Fatalf("Edited(%+v, %+v, %+v) is refused", nodes, other, list)
	}
	return edited
}

func TestPlayNumbers(t *testing.T) {
	for want, got := range map[int64][]int64{1: {impl.EdPrune, impl.AcTick}, 2: {impl.EdGraft, impl.AcAsk}, 3: {impl.EdOther, impl.AcTake}, 4: {impl.EdWrap}} {
		for _, kind := range got {
			if kind != want {
				t.Errorf("the kind %d is %d", want, kind)
			}
		}
	}
}

// These two are edited by hand: a text, b with c in it, a text; q, and p with a text and s in it.
const (
	editLetter = `<a>x<b><c/></b>y</a>`
	otherOne   = `<o>q<p z="1">r<s/></p></o>`
)

func edits(list ...impl.Edit) []impl.Edit { return list }

func TestEditedByEachKind(t *testing.T) {
	for _, c := range []struct {
		list []impl.Edit
		want string
	}{
		{nil, editLetter}, {edits(), editLetter},
		{edits(prune(1)), `<a><b><c/></b>y</a>`}, {edits(prune(2)), `<a>xy</a>`}, {edits(prune(3)), `<a>x<b/>y</a>`}, {edits(prune(4)), `<a>x<b><c/></b></a>`},
		{edits(graft(0, 0)), `<a>x<b><c/></b>y` + editLetter + `</a>`}, {edits(graft(0, 2)), `<a>x<b><c/></b>y<b><c/></b></a>`}, {edits(graft(0, 3)), `<a>x<b><c/></b>y<c/></a>`},
		{edits(graft(2, 0)), `<a>x<b><c/>` + editLetter + `</b>y</a>`}, {edits(graft(2, 2)), `<a>x<b><c/><b><c/></b></b>y</a>`}, {edits(graft(2, 3)), `<a>x<b><c/><c/></b>y</a>`},
		{edits(graft(3, 0)), `<a>x<b><c>` + editLetter + `</c></b>y</a>`}, {edits(graft(3, 2)), `<a>x<b><c><b><c/></b></c></b>y</a>`}, {edits(graft(3, 3)), `<a>x<b><c><c/></c></b>y</a>`},
		{edits(graftOther(0, 0)), `<a>x<b><c/></b>y` + otherOne + `</a>`}, {edits(graftOther(0, 2)), `<a>x<b><c/></b>y<p z="1">r<s/></p></a>`}, {edits(graftOther(0, 4)), `<a>x<b><c/></b>y<s/></a>`},
		{edits(graftOther(2, 0)), `<a>x<b><c/>` + otherOne + `</b>y</a>`}, {edits(graftOther(2, 2)), `<a>x<b><c/><p z="1">r<s/></p></b>y</a>`}, {edits(graftOther(2, 4)), `<a>x<b><c/><s/></b>y</a>`},
		{edits(graftOther(3, 0)), `<a>x<b><c>` + otherOne + `</c></b>y</a>`}, {edits(graftOther(3, 2)), `<a>x<b><c><p z="1">r<s/></p></c></b>y</a>`}, {edits(graftOther(3, 4)), `<a>x<b><c><s/></c></b>y</a>`},
		{edits(wrap(2, "w")), `<a>x<w><b><c/></b></w>y</a>`}, {edits(wrap(3, "p:w")), `<a>x<b><p:w><c/></p:w></b>y</a>`},
	} {
		nodes, other := letterTree(t, editLetter), letterTree(t, otherOne)
		wantEdited(t, nodes, other, c.list, answer{letterTree(t, c.want), true})
	}
	// One tree may be both.
	nodes := letterTree(t, editLetter)
	for at := range int64(5) {
		for from := range int64(5) {
			wantEdited(t, nodes, nodes, edits(graftOther(at, from)), told(expectedEdited(nodes, nodes, edits(graft(at, from)))))
		}
	}
	for _, nodes := range [][]impl.Node{middleTree(), chain(9), wide(50), wide(1), letterTree(t, hiding), mustMake(t, houseKey, fullClaim(), "m1", true)} {
		wantEdited(t, nodes, middleTree(), nil, answer{nodes, true})
		wantEdited(t, middleTree(), nodes, edits(), answer{middleTree(), true})
	}
}

// A later Edit speaks of what stands there by then.
func TestEditsOneBehindTheOther(t *testing.T) {
	for _, c := range []struct {
		list []impl.Edit
		want string
	}{
		{edits(graft(0, 2), prune(2)), `<a>xy<b><c/></b></a>`}, {edits(prune(2), graft(0, 2)), `<a>xy</a>`}, {edits(graft(0, 3), prune(3), prune(1)), `<a><b/>y<c/></a>`},
		{edits(wrap(2, "w"), prune(2)), `<a>xy</a>`}, {edits(wrap(2, "w"), prune(3)), `<a>x<w/>y</a>`}, {edits(wrap(2, "w"), prune(4)), `<a>x<w><b/></w>y</a>`}, {edits(wrap(2, "w"), prune(5)), `<a>x<w><b><c/></b></w></a>`},
		{edits(wrap(2, "w"), wrap(2, "v")), `<a>x<v><w><b><c/></b></w></v>y</a>`}, {edits(wrap(2, "w"), wrap(3, "v")), `<a>x<w><v><b><c/></b></v></w>y</a>`}, {edits(wrap(3, "w"), wrap(2, "v")), `<a>x<v><b><w><c/></w></b></v>y</a>`},
		{edits(wrap(2, "w"), graft(0, 2), prune(2)), `<a>xy<w><b><c/></b></w></a>`}, {edits(wrap(2, "w"), graft(2, 4)), `<a>x<w><b><c/></b><c/></w>y</a>`},
		{edits(prune(1), prune(1), prune(1)), `<a/>`}, {edits(prune(1), prune(1), prune(1), prune(1), prune(0)), `<a/>`}, {edits(prune(4), prune(3), prune(2), prune(1)), `<a/>`}, {edits(prune(2), prune(1)), `<a/>`}, {edits(prune(2), prune(2)), `<a>xy</a>`},
		{edits(graftOther(0, 2), graft(5, 2)), `<a>x<b><c/></b>y<p z="1">r<s/><b><c/></b></p></a>`}, {edits(graftOther(0, 2), graft(2, 5), prune(8)), `<a>x<b><c/><p z="1">r<s/></p></b>y</a>`},
		// The other tree stays as it is, whatever is done to what came of it.
		{edits(graftOther(0, 2), prune(7), graftOther(5, 2)), `<a>x<b><c/></b>y<p z="1">r<p z="1">r<s/></p></p></a>`}, {edits(prune(2), graftOther(0, 2)), `<a>xy<p z="1">r<s/></p></a>`}, {edits(graftOther(0, 4), graftOther(0, 4), graftOther(5, 4)), `<a>x<b><c/></b>y<s><s/></s><s/></a>`},
		{edits(prune(4), graftOther(0, 4), prune(1), wrap(1, "w")), `<a><w><b><c/></b></w><s/></a>`},
		// What cannot be yet may be later on.
		{edits(graft(5, 2), graft(0, 2), graft(5, 2)), `<a>x<b><c/></b>y<b><c/><b><c/></b></b></a>`}, {edits(wrap(4, "w"), prune(1), prune(3), graftOther(0, 4), wrap(3, "w")), `<a><b><c/></b><w><s/></w></a>`},
		// A copy is taken of what is there by then.
		{edits(graft(3, 2), graft(0, 2)), `<a>x<b><c><b><c/></b></c></b>y<b><c><b><c/></b></c></b></a>`}, {edits(graft(3, 2), prune(4), graft(0, 2)), `<a>x<b><c/></b>y<b><c/></b></a>`},
	} {
		wantEdited(t, letterTree(t, editLetter), letterTree(t, otherOne), c.list, answer{letterTree(t, c.want), true})
	}
}

// noEdits can't be, of editLetter and otherOne.
func noEdits() []impl.Edit {
	var list []impl.Edit
	for _, kind := range append(farNumbers(), 0, -1, -2, -4, 5, 6, 7, 8, 256+1, 256+4, 1<<16+1, 1<<32+3, 1<<32+4) {
		list = append(list, impl.Edit{Kind: kind, At: 2, From: 2, Name: "w"}, impl.Edit{Kind: kind})
	}
	for _, at := range append(farNumbers(), -1, -2, -5, 5, 6, 49, 50, 51, 256+2, 1<<32+2, 1<<32+3, math.MinInt64+2) {
		list = append(list, prune(at), graft(at, 2), graftOther(at, 2), wrap(at, "w"), graft(2, at), graft(0, at), graftOther(2, at), graftOther(0, at), graft(at, at), graftOther(at, at))
	}
	// Neither the first, nor by a text, nor to a text.
	list = append(list, prune(0), wrap(0, "w"), wrap(1, "w"), wrap(4, "w"), graft(1, 2), graft(4, 2), graft(2, 1), graft(2, 4), graft(1, 1), graftOther(1, 2), graftOther(4, 2), graftOther(2, 1), graftOther(2, 3), graftOther(4, 0))
	for _, name := range []string{"", " ", "w ", " w", "1", "w1", ":", "w:", ":w", "a:b:c", "<w>", "w\n", "w x", "w/", "\x00", "\xff", "\u00e9", strings.Repeat("w", 11), strings.Repeat("w", 256+1), "p:" + strings.Repeat("w", 11), strings.Repeat("p", 11) + ":w"} {
		list = append(list, wrap(2, name), wrap(3, name))
	}
	return list
}

func TestEditsThatCannotBeArePassedOver(t *testing.T) {
	nodes, other := letterTree(t, editLetter), letterTree(t, otherOne)
	right, want := edits(wrap(2, "w"), graftOther(0, 2), prune(1)), answer{letterTree(t, `<a><w><b><c/></b></w>y<p z="1">r<s/></p></a>`), true}
	wantEdited(t, nodes, other, right, want)
	for i, wrong := range noEdits() {
		wantEdited(t, nodes, other, edits(wrong), answer{nodes, true})
		wantEdited(t, nodes, other, edits(wrong, noEdits()[(i+7)%len(noEdits())]), answer{nodes, true})
		wantEdited(t, nodes, other, slices.Repeat(edits(wrong), mostEdits), answer{nodes, true})
		// It keeps none behind it from being done.
		wantEdited(t, nodes, other, append(edits(wrong), right...), want)
	}
	// What was passed over is so even where all others are done.
	for at := range 4 {
		for _, wrong := range []impl.Edit{prune(0), prune(99), graft(1, 99), graftOther(0, 5), wrap(0, "w"), wrap(1, ""), {Kind: 5, At: 1}, {At: 1}} {
			wantEdited(t, nodes, other, slices.Insert(slices.Clone(right), at, wrong), want)
		}
	}
	// Fields that an Edit does not speak of say nothing.
	wantEdited(t, nodes, other, edits(impl.Edit{Kind: 1, At: 2, From: -7, Name: "1"}), answer{letterTree(t, `<a>xy</a>`), true})
	wantEdited(t, nodes, other, edits(impl.Edit{Kind: 4, At: 3, From: math.MinInt64, Name: "w"}), answer{letterTree(t, `<a>x<b><w><c/></w></b>y</a>`), true})
	wantEdited(t, nodes, other, edits(impl.Edit{Kind: 2, At: 3, From: 3, Name: "\xff"}, impl.Edit{Kind: 3, At: 0, From: 4, Name: ""}), answer{letterTree(t, `<a>x<b><c><c/></c></b>y<s/></a>`), true})
}

func TestEditedOfMostEdits(t *testing.T) {
	one, other := wide(1), letterTree(t, `<b/>`)
	for count := range 70 {
		within := count <= mostEdits
		want, same := answer{}, answer{}
		if within {
			want, same = answer{wide(1 + count), true}, answer{one, true}
		}
		wantEdited(t, one, other, slices.Repeat(edits(graftOther(0, 0)), count), want)
		// Those that are passed over count as well.
		for _, wrong := range []impl.Edit{{}, prune(0), wrap(0, "w"), graft(1, 0), {Kind: 5}} {
			wantEdited(t, one, other, slices.Repeat(edits(wrong), count), same)
		}
		if count > 0 {
			list := slices.Repeat(edits(impl.Edit{}), count)
			list[count-1] = graftOther(0, 0)
			if within {
				want = answer{wide(2), true}
			}
			wantEdited(t, one, other, list, want)
		}
	}
	for _, count := range []int{255, 256, 256 + 20, 1 << 16} {
		wantEdited(t, one, other, slices.Repeat(edits(graftOther(0, 0)), count), answer{})
		wantEdited(t, one, other, make([]impl.Edit, count), answer{})
	}
}

// An Edit that would make too many Nodes, or too many in one another, or too long a text, is passed over; the next one need not be.
func TestEditedUpToTheLimits(t *testing.T) {
	for count := 40; count <= 50; count++ {
		nodes := wide(count)
		for more := 1; more <= 12; more++ {
			want := nodes
			if count+more <= 50 {
				want = append(slices.Clip(nodes), append([]impl.Node{element(0, "a")}, slices.Repeat([]impl.Node{element(int64(count), "b")}, more-1)...)...)
			}
			wantEdited(t, nodes, wide(more), edits(graftOther(0, 0)), answer{want, true})
		}
		wantEdited(t, nodes, wide(1), slices.Repeat(edits(graft(0, 1)), 20), answer{wide(min(50, count+20)), true})
	}
	wantEdited(t, wide(50), wide(1), edits(wrap(3, "w"), graft(0, 1), graftOther(4, 0), prune(49), wrap(48, "w"), graft(0, 1), prune(1), graft(0, 1)), answer{append(append(wide(47), element(0, "w"), element(47, "b")), element(0, "b")), true})
	// In itself, again and again: twice as many each time, as long as there is room.
	sizes := []int{1, 2, 4, 8, 16, 32, 32, 32}
	for count, size := range sizes {
		list := slices.Repeat(edits(graft(0, 0)), count)
		if got := mustEdit(t, wide(1), wide(1), list...); len(got) != size {
			t.Errorf("in itself %d times it is %+v", count, got)
		}
		wantEdited(t, wide(1), wide(1), list, told(expectedEdited(wide(1), wide(1), list)))
	}
	for depth := 1; depth <= 9; depth++ {
		last := int64(depth) - 1
		for more := 1; more <= 9; more++ {
			want := chain(depth)
			if depth+more <= 9 {
				want = chain(depth + more)
			}
			wantEdited(t, chain(depth), chain(more), edits(graftOther(last, 0)), answer{want, true})
			wantEdited(t, chain(9), chain(more), edits(prune(int64(depth)), graftOther(last, 0)), answer{want, true})
		}
		wraps := slices.Repeat(edits(wrap(1, "a")), 20)
		if depth > 1 {
			wantEdited(t, chain(depth), wide(1), wraps, answer{chain(9), true})
		} else {
			wantEdited(t, chain(depth), wide(1), wraps, answer{chain(1), true})
		}
	}
	for ahead := 28; ahead <= 32; ahead++ {
		full := []impl.Node{element(-1, "a"), textNode(0, strings.Repeat("&", ahead)), element(0, "b"), textNode(0, strings.Repeat("<", 30)), element(0, "c")}
		want := answer{[]impl.Node{full[0], full[1], full[2], full[3]}, true}
		if ahead <= 30 {
			want = answer{[]impl.Node{full[0], textNode(0, full[1].Text+full[3].Text)}, true}
			wantEdited(t, full, wide(1), edits(prune(2), prune(2)), want)
			continue
		}
		wantEdited(t, full, wide(1), edits(prune(2), prune(4)), want)
	}
}

func TestEditedOfNoTree(t *testing.T) {
	right, lists := letterTree(t, editLetter), [][]impl.Edit{nil, edits(prune(1)), edits(graft(0, 2)), edits(graftOther(0, 2)), edits(wrap(2, "w")), edits(impl.Edit{}), slices.Repeat(edits(graftOther(0, 0)), 20), slices.Repeat(edits(graftOther(0, 0)), 21)}
	for _, wrong := range noTrees() {
		for _, list := range lists {
			wantEdited(t, wrong, right, list, answer{})
			// Also where no Edit speaks of the other one.
			wantEdited(t, right, wrong, list, answer{})
			wantEdited(t, wrong, wrong, list, answer{})
		}
	}
	// Neither what names mean nor Ids are asked.
	for _, text := range []string{`<p:a/>`, `<a Id="X"><b Id="X"/></a>`, `<ns:a ns:p=""/>`} {
		nodes := letterTree(t, text)
		wantEdited(t, nodes, right, edits(graft(0, 0)), told(expectedGrafted(nodes, 0, nodes)))
		wantEdited(t, right, nodes, edits(graftOther(2, 0)), told(expectedGrafted(right, 2, nodes)))
	}
}

// strewnEdit is mostly one that can be.
func strewnEdit(next func(int) int, most int) impl.Edit {
	names := []string{"w", "w", "p:w", "c:Claim", "l:Claim", "c:Fact", "abcdefghij:KLMNOPQRST", "", "1"}
	e := impl.Edit{Kind: int64(1 + next(4)), At: int64(next(most)), From: int64(next(most)), Name: names[next(len(names))]}
	switch next(20) {
	case 0:
		e.Kind = []int64{0, 5, farNumber(next)}[next(3)]
	case 1:
		e.At = []int64{-1, 50, farNumber(next)}[next(3)]
	case 2:
		e.From = []int64{-1, 50, farNumber(next)}[next(3)]
	}
	return e
}

func strewnEdits(next func(int) int, most int) []impl.Edit {
	var list []impl.Edit
	for range next(22) {
		list = append(list, strewnEdit(next, most))
	}
	return list
}

func TestEditedInWhateverWay(t *testing.T) {
	changed, refused := 0, 0
	for seed := range 500 {
		next := dice(seed)
		nodes, other := strewnTree(seed), strewnTree(3*seed+1)
		switch next(3) {
		case 0:
			nodes = mustMake(t, houseKey, fullClaim(), "m1", seed%2 == 0)
		case 1:
			nodes = nodes[:1+next(len(nodes))]
		}
		if next(30) == 0 {
			other = noTrees()[next(len(noTrees()))]
		}
		list := strewnEdits(next, len(nodes)+3)
		want := told(expectedEdited(nodes, other, list))
		for range 2 {
			wantEdited(t, nodes, other, list, want)
		}
		switch {
		case !want.ok:
			refused++
		case !sameTree(want.nodes, nodes):
			changed++
		}
		// What is told is a tree, which is then edited on.
		if want.ok && !impl.TreeOk(want.nodes) {
			t.Errorf("%+v is no tree", want.nodes)
		}
		for cut := range len(list) {
			first, ok := impl.Edited(nodes, other, list[:cut])
			if then := told(impl.Edited(first, other, list[cut:])); ok && want.ok && !sameTree(then.nodes, want.nodes) {
				t.Errorf("%+v at once is another thing than one behind the other", list)
			}
		}
		if t.Failed() {
			t.FailNow()
		}
	}
	if changed < 300 || refused < 20 {
		t.Errorf("%d were changed, %d refused", changed, refused)
	}
}

// The parts of these are written here by hand.
func TestSealPartsOfLettersMade(t *testing.T) {
	const plainPart = `<c:Claim ns:c="claim" Id="k1"><c:Issuer>idp</c:Issuer><c:Subject>ann</c:Subject><c:Term From="2000-01-01T00:01:40Z" To="2000-01-01T00:03:20Z"></c:Term><c:For>gate</c:For></c:Claim>`
	inner, outer := mustMake(t, houseKey, plainClaim(), "m1", false), mustMake(t, houseKey, plainClaim(), "m1", true)
	wantSealParts(t, inner, 9, plainPart, "Ref=k1;Sum=0248290203")
	wantSealParts(t, outer, 9, `<l:Letter ns:l="claim" Id="m1">`+plainPart+`</l:Letter>`, "Ref=m1;Sum=1457260217")
	full := mustMake(t, mostKey, fullClaim(), longestId, true)
	wantSealParts(t, full, 19, `<l:Letter ns:l="claim" Id="`+longestId+`">`+fmt.Sprintf(plainLetter, fullRest)+`</l:Letter>`, "Ref="+longestId+";Sum=0101378380")
	// Both: what is sealed outside holds the seal further in.
	both, _ := sealedTree(t, inner, 0, thirdKey)
	parts := impl.SealParts(both, 10)
	if want := `<l:Letter ns:l="claim" Id="m1">` + strings.TrimSuffix(plainPart, `</c:Claim>`) + `<s:Seal ns:s="seal" Ref="k1" Sign="1508282063" Sum="0248290203"></s:Seal></c:Claim></l:Letter>`; len(parts) != 2 || parts[0] != want {
		t.Errorf("both: %q, not %q", parts, want)
	}
	wantSealParts(t, both, 9, plainPart, "Ref=k1;Sum=0248290203")
	for _, nodes := range [][]impl.Node{inner, outer, full, both} {
		count := 1
		if len(nodes) == len(both) {
			count = 2
		}
		if got := checkSealParts(t, nodes); got != count {
			t.Errorf("of %+v are %d seals", nodes, got)
		}
	}
	for i, p := range keyCases() {
		k := madeKey(t, p[0], p[1], p[2])
		for way, made := range madeInAllWays(t, k, fullClaim(), idNumber(i)+"m") {
			seal, at := int64(len(made))-1, placeOf(way == 2)
			sum := impl.Digits(impl.Hash(impl.Canon(made, at, seal)))
			wantSealParts(t, made, seal, impl.Canon(made, at, seal), "Ref="+impl.IdOf(made, at)+";Sum="+sum)
		}
	}
}

// Whether the Sum and the Sign are right is not asked.
func TestSealPartsOfSealsThatAreNotRight(t *testing.T) {
	for _, c := range []struct {
		letter string
		at     int64
		want   []string
	}{
		{`<a Id="x1">` + someSeal + `</a>`, 1, []string{`<a Id="x1"></a>`, "Ref=x1;Sum=0000000001"}},
		{`<a Id="x1">x` + someSeal + `y</a>`, 2, []string{`<a Id="x1">xy</a>`, "Ref=x1;Sum=0000000001"}},
		{`<a><b Id="x1">x` + someSeal + `<c/></b>y</a>`, 3, []string{`<b Id="x1">x<c></c></b>`, "Ref=x1;Sum=0000000001"}},
		{`<a ns="u" ns:p="w"><p:b Id="x1"><c/>` + someSeal + `</p:b></a>`, 3, []string{`<p:b ns:p="w" Id="x1"><c ns="u"></c></p:b>`, "Ref=x1;Sum=0000000001"}},
		{`<a ns="seal" Id="0"><Seal Sign="9999999999" Sum="9999999999" Ref="0" ns:q="q"/></a>`, 1, []string{`<a ns="seal" Id="0"></a>`, "Ref=0;Sum=9999999999"}},
		// A second one is part of what the first one seals.
		{`<a Id="x1">` + someSeal + someSeal + `</a>`, 1, []string{`<a Id="x1"><s:Seal ns:s="seal" Ref="x1" Sign="0000000002" Sum="0000000001"></s:Seal></a>`, "Ref=x1;Sum=0000000001"}},
		{`<a Id="x1">` + someSeal + someSeal + `</a>`, 2, []string{`<a Id="x1"><s:Seal ns:s="seal" Ref="x1" Sign="0000000002" Sum="0000000001"></s:Seal></a>`, "Ref=x1;Sum=0000000001"}},
		// Seals that seal not their Parent: it has another Id, or none; it is further out or aside.
		{`<a Id="x2">` + someSeal + `</a>`, 1, nil}, {`<a>` + someSeal + `</a>`, 1, nil}, {`<a Id="x1"><b>` + someSeal + `</b></a>`, 2, nil}, {`<a Id="x1"><b Id="x2">` + someSeal + `</b></a>`, 2, nil}, {`<a><b Id="x1"/>` + someSeal + `</a>`, 2, nil}, {`<a id="x1">` + someSeal + `</a>`, 1, nil}, {someSeal, 0, nil},
		{`<a ns:s="seal"><s:Seal Ref="" Sum="0000000001" Sign="0000000002"/></a>`, 1, nil}, {`<a ns="seal"><Seal Ref="x1" Sum="0000000001" Sign="0000000002" Id="x1"/></a>`, 1, nil}, {`<s:Seal Id="x1" ns:s="seal" Ref="x1" Sum="0000000001" Sign="0000000002"/>`, 0, nil},
		// What is no seal.
		{`<a Id="x1"><Seal Ref="x1" Sum="0000000001" Sign="0000000002"/></a>`, 1, nil}, {`<a Id="x1"><s:seal ns:s="seal" Ref="x1" Sum="0000000001" Sign="0000000002"/></a>`, 1, nil}, {`<a Id="x1"><s:Seal ns:s="seals" Ref="x1" Sum="0000000001" Sign="0000000002"/></a>`, 1, nil},
		{`<a Id="x1"><s:Seal ns:s="seal" Ref="x1" Sum="000000001" Sign="0000000002"/></a>`, 1, nil}, {`<a Id="x1"><s:Seal ns:s="seal" Ref="x1" Sum="0000000001" Sign="00000000021"/></a>`, 1, nil}, {`<a Id="x1"><s:Seal ns:s="seal" Ref="x1" Sum="0000000001"/></a>`, 1, nil}, {`<a Id="x1"><s:Seal ns:s="seal" Ref="x1" Sum="0000000001" Sign="0000000002" More="1"/></a>`, 1, nil},
		{`<a Id="x1"><s:Seal ns:s="seal" Ref="x1" Sum="0000000001" Sign="0000000002">x</s:Seal></a>`, 1, nil}, {`<a Id="x1"><s:Seal ns:s="seal" Ref="x1" Sum="0000000001" Sign="0000000002"><b/></s:Seal></a>`, 1, nil}, {`<a Id="x1">x` + someSeal + `</a>`, 1, nil}, {`<a Id="x1">x` + someSeal + `</a>`, 0, nil},
		// In a tree that is not NamesOk, or not IdsOk, wherever that is.
		{`<a Id="x1">` + someSeal + `<p:b/></a>`, 1, nil}, {`<p:a Id="x1">` + someSeal + `</p:a>`, 1, nil}, {`<a ns="U"><b Id="x1">` + someSeal + `</b></a>`, 2, nil}, {`<a><b Id="x1">` + someSeal + `</b><c q:x=""/></a>`, 2, nil},
		{`<a Id="x1">` + someSeal + `<b Id="x1"/></a>`, 1, nil}, {`<a Id="x1">` + someSeal + `<b Id="X"/></a>`, 1, nil}, {`<a><b Id="x1">` + someSeal + `</b><c Id="x1"/></a>`, 2, nil}, {`<a Id=""><b Id="x1">` + someSeal + `</b></a>`, 2, nil},
	} {
		nodes := letterTree(t, c.letter)
		wantSealParts(t, nodes, c.at, c.want...)
		checkSealParts(t, nodes)
	}
}

func TestSealPartsWhereThereIsNone(t *testing.T) {
	for _, outer := range []bool{false, true} {
		made := mustMake(t, houseKey, fullClaim(), "m1", outer)
		size := int64(len(made))
		for _, at := range append(farNumbers(), -1, -2, -size, size, size+1, 49, 50, 51, 256+19, 1<<32+size-1, math.MinInt64+size-1) {
			wantSealParts(t, made, at)
		}
		for at := range size - 1 {
			wantSealParts(t, made, at)
		}
		// A piece of it is no tree, or one without the seal.
		for from := range made {
			wantSealParts(t, made[:from], int64(from))
			for _, at := range []int64{size - 1, size - 1 - int64(from)} {
				if from > 0 {
					wantSealParts(t, made[from:], at)
				}
			}
		}
	}
	for _, nodes := range noTrees() {
		for _, at := range []int64{-1, 0, 1, 2, 3, 10, 50, 51, int64(len(nodes)) - 1} {
			wantSealParts(t, nodes, at)
		}
	}
	for _, letter := range wronglyNamed() {
		nodes := letterTree(t, letter)
		for _, at := range elementsOf(nodes) {
			if len(nodes[at].Attrs) == 6 {
				continue
			}
			if has, ok := impl.Grafted(withId(nodes, at, 0, "x1"), at, []impl.Node{sealNode(-1, "x1", "0000000001", "0000000002")}); ok {
				wantSealParts(t, has, impl.EndOf(nodes, at))
			}
		}
	}
}

// Of whatever was sealed its parts are what was hashed: by them alone it is told whether the seal is right.
func TestSealPartsAreWhatIsHashed(t *testing.T) {
	count := 0
	for seed := range 250 {
		next := dice(seed)
		sealed, _ := strewnSealed(t, next, seed, houseKey)
		if len(sealed) == 0 {
			continue
		}
		for range 3 {
			checkSealParts(t, sealed)
			for at := range int64(len(sealed)) {
				parts := impl.SealParts(sealed, at)
				if len(parts) == 0 {
					if impl.SealedBy(sealed, at, houseKey) {
						t.Errorf("of the seal %d of %+v are no parts", at, sealed)
					}
					continue
				}
				count++
				sum, _ := impl.ValueIn(sealed[at].Attrs, "Sum")
				sign, _ := impl.ValueIn(sealed[at].Attrs, "Sign")
				locked, _ := impl.Number(sign)
				right := impl.Digits(impl.Hash(parts[0])) == sum && impl.Opened(houseKey, locked) == impl.Hash(parts[1])
				if right != impl.SealedBy(sealed, at, houseKey) {
					t.Errorf("the seal %d of %+v is right: %v, its parts are %q", at, sealed, !right, parts)
				}
			}
			if t.Failed() {
				t.FailNow()
			}
			if other := changedNodes(next, sealed); impl.TreeOk(other) {
				sealed = other
			}
		}
	}
	if count < 300 {
		t.Errorf("only of %d seals are parts", count)
	}
}

func TestHappenOfTicks(t *testing.T) {
	g := plainGate()
	at := func(now int64, heard impl.Table) impl.Gate {
		out := g
		out.Now, out.Heard = now, heard
		return out
	}
	for _, c := range []struct {
		by   int64
		want impl.Gate
		code int64
	}{
		{0, g, 0}, {1, at(151, table(4, "a0 200")), 0}, {49, at(199, table(4, "a0 200")), 0}, {50, at(200, table(4)), 0}, {349, at(499, table(4)), 0},
		{-1, g, 1}, {-150, g, 1}, {-lastTime, g, 1}, {lastTime + 1, g, 1}, {math.MinInt64, g, 1}, {math.MaxInt64, g, 1},
	} {
		wantHappen(t, g, tick(c.by), c.want, impl.Claim{}, c.code)
		// Fields that an Act does not speak of say nothing.
		wantHappen(t, g, impl.Act{Kind: 1, By: c.by, Id: "R", Text: "?"}, c.want, impl.Claim{}, c.code)
	}
	for _, by := range []int64{350, lastTime - 151, lastTime - 150, lastTime - 149, lastTime} {
		end := at(min(150+by, lastTime), table(4))
		end.Asked = table(4)
		wantHappen(t, g, tick(by), end, impl.Claim{}, 0)
	}
	for _, g := range rightGates() {
		for _, by := range append(farNumbers(), 0, 1, 60, lastTime-g.Now, lastTime, lastTime+1, -1) {
			want, ok := expectedTicked(g, by)
			code := int64(1)
			if ok {
				code = 0
			}
			wantHappen(t, g, tick(by), want, impl.Claim{}, code)
		}
	}
}

func TestHappenOfAsks(t *testing.T) {
	g := plainGate()
	with := func(rows ...string) impl.Gate {
		out := g
		out.Asked = table(4, rows...)
		return out
	}
	for _, c := range []struct {
		id   string
		by   int64
		want impl.Gate
		code int64
	}{
		{"r3", 50, with("r1 500", "r2 500", "r3 200"), 0}, {"r3", 0, with("r1 500", "r2 500", "r3 150"), 0}, {"a", 350, with("a 500", "r1 500", "r2 500"), 0}, {longestId, 1, with(longestId+" 151", "r1 500", "r2 500"), 0},
		// Till a time that has been, and no further back than to the first one.
		{"r3", -1, with("r1 500", "r2 500", "r3 149"), 0}, {"r3", -150, with("r1 500", "r2 500", "r3 0"), 0}, {"r3", -151, with("r1 500", "r2 500", "r3 0"), 0}, {"r3", -lastTime, with("r1 500", "r2 500", "r3 0"), 0},
		// Till the last time, and no further on.
		{"r3", lastTime - 151, with("r1 500", "r2 500", "r3 3155759998"), 0}, {"r3", lastTime - 150, with("r1 500", "r2 500", "r3 3155759999"), 0}, {"r3", lastTime - 149, with("r1 500", "r2 500", "r3 3155759999"), 0}, {"r3", lastTime, with("r1 500", "r2 500", "r3 3155759999"), 0},
		{"r1", 50, g, 1}, {"r2", lastTime, g, 1}, {"r1", -151, g, 1},
		// Bad by its Id, by its time, by both: the Gate is as it was.
		{"", 50, g, 3}, {"R3", 50, g, 3}, {"r 3", 50, g, 3}, {longestId + "0", 50, g, 3}, {"r3", lastTime + 1, g, 3}, {"r3", -lastTime - 1, g, 3}, {"r3", math.MinInt64, g, 3}, {"r3", math.MaxInt64, g, 3}, {"r1", lastTime + 1, g, 3}, {"", math.MinInt64, g, 3},
	} {
		wantHappen(t, g, ask(c.id, c.by), c.want, impl.Claim{}, c.code)
		wantHappen(t, g, impl.Act{Kind: 2, Id: c.id, By: c.by, Text: "?"}, c.want, impl.Claim{}, c.code)
	}
	full := with("r1 500", "r2 500", "r3 1", "r4 1")
	wantHappen(t, full, ask("r5", 50), full, impl.Claim{}, 2)
	wantHappen(t, full, ask("r4", 50), full, impl.Claim{}, 1)
	wantHappen(t, full, ask("R5", 50), full, impl.Claim{}, 3)
	wantHappen(t, full, ask("r5", lastTime+1), full, impl.Claim{}, 3)
	for _, g := range rightGates() {
		for _, id := range append(noIds(), "r1", "r0", "zz", longestId) {
			for _, by := range append(noTimes(), 0, 500, lastTime, lastTime-g.Now, lastTime-g.Now+1, -g.Now, -g.Now-1) {
				want, code := expectedAsks(g, id, expectedLater(g.Now, by))
				if code == 3 {
					want = g
				}
				wantHappen(t, g, ask(id, by), want, impl.Claim{}, code)
			}
		}
	}
}

func TestHappenOfTakes(t *testing.T) {
	for _, outer := range []bool{false, true} {
		g := plainGate()
		letters := impl.Sent(mustMake(t, houseKey, fullClaim(), "m1", outer))
		in := gateHaving(g, fullClaim())
		wantHappen(t, g, take(letters), in, fullClaim(), impl.GtOk)
		wantHappen(t, g, impl.Act{Kind: 3, By: math.MinInt64, Id: "R", Text: letters}, in, fullClaim(), impl.GtOk)
		wantHappen(t, in, take(letters), in, impl.Claim{}, impl.GtAnswers)
		asked, _, _ := impl.Happen(in, ask("r1", 9))
		wantHappen(t, asked, take(letters), asked, impl.Claim{}, impl.GtHeard)
		for code := int64(1); code <= 13; code++ {
			g, letters := faultyLetter(t, outer, func(other int64) bool { return other == code })
			wantHappen(t, g, take(letters), g, impl.Claim{}, code)
		}
	}
	wantHappen(t, plainGate(), take(""), plainGate(), impl.Claim{}, impl.GtTree)
}

func TestHappenOfNoKind(t *testing.T) {
	letters := impl.Sent(mustMake(t, houseKey, plainClaim(), "", false))
	for _, kind := range append(farNumbers(), 0, -1, -2, -3, 4, 5, 6, 256+1, 256+3, 1<<32+3, math.MinInt64+3) {
		for _, a := range []impl.Act{{Kind: kind}, {Kind: kind, By: 60, Id: "r3", Text: letters}} {
			wantHappen(t, plainGate(), a, plainGate(), impl.Claim{}, -1)
			wantPlay(t, plainGate(), []impl.Act{a}, plainGate())
		}
	}
	for _, g := range rightGates() {
		wantHappen(t, g, impl.Act{}, g, impl.Claim{}, -1)
	}
}

func TestNothingHappensAtAGateThatIsNotRight(t *testing.T) {
	letters := impl.Sent(mustMake(t, houseKey, plainClaim(), "", false))
	acts := []impl.Act{tick(0), tick(1), tick(-1), ask("r3", 5), ask("R", 5), take(letters), take("?"), {}, {Kind: 4}, {Kind: -1}, {Kind: math.MinInt64}}
	wrong := func(g impl.Gate) {
		for _, a := range acts {
			wantHappen(t, g, a, impl.Gate{}, impl.Claim{}, -2)
			wantPlay(t, g, []impl.Act{a}, impl.Gate{})
		}
		wantPlay(t, g, nil, impl.Gate{})
		wantPlay(t, g, acts, impl.Gate{})
		wantPlay(t, g, slices.Repeat(acts, 6), impl.Gate{})
	}
	eachWrongGate(wrong)
	wrong(impl.Gate{})
}

func TestPlaysOfFewActs(t *testing.T) {
	g := plainGate()
	c, other := plainClaim(), fullClaim()
	other.Id = "k2"
	plain, full := impl.Sent(mustMake(t, houseKey, c, "", false)), impl.Sent(mustMake(t, houseKey, other, "m1", true))
	wantPlay(t, g, nil, g)
	wantPlay(t, g, []impl.Act{}, g)
	for _, g := range rightGates() {
		wantPlay(t, g, nil, g)
	}
	later := g
	later.Now, later.Heard = 200, table(4)
	wantPlay(t, g, []impl.Act{tick(50)}, later)
	asking := g
	asking.Asked = table(4, "r1 500", "r2 500", "r3 200")
	// What is asked tells 0 too, and is no Claim.
	wantPlay(t, g, []impl.Act{ask("r3", 50)}, asking)
	wantPlay(t, g, []impl.Act{tick(0), ask("r3", 50), tick(0)}, asking)
	wantPlay(t, g, []impl.Act{take(plain)}, gateHaving(g, c), c)
	wantPlay(t, g, []impl.Act{take(full)}, gateHaving(g, other), other)
	// In the order in which they come, each once.
	both := gateHaving(gateHaving(g, c), other)
	wantPlay(t, g, []impl.Act{take(plain), take(full)}, both, c, other)
	wantPlay(t, g, []impl.Act{take(full), take(plain)}, both, other, c)
	wantPlay(t, g, []impl.Act{take(plain), take(plain), take(full), take(full), take(plain)}, both, c, other)
	// What is refused, and what is of no kind, changes nothing, and keeps nothing behind it from happening.
	for _, nothing := range []impl.Act{tick(-1), tick(lastTime + 1), ask("r2", 5), ask("R", 5), ask("r3", -lastTime-1), take("?"), take(""), take(impl.ToLetters("<a/>")), {}, {Kind: 4, Text: full}, {Kind: -1, By: 7}} {
		wantPlay(t, g, []impl.Act{nothing}, g)
		wantPlay(t, g, []impl.Act{nothing, take(full), nothing, nothing, take(plain), nothing}, both, other, c)
	}
	// A letter comes too early, in its time, and too late.
	g.Now, g.Skew, g.Heard = 0, 10, table(4)
	at := func(g impl.Gate, now int64) impl.Gate {
		g, _ = expectedTicked(g, now-g.Now)
		return g
	}
	wantPlay(t, g, []impl.Act{take(plain), tick(89), take(plain)}, at(g, 89))
	wantPlay(t, g, []impl.Act{take(plain), tick(89), take(plain), tick(1), take(plain), take(plain)}, gateHaving(at(g, 90), c), c)
	wantPlay(t, g, []impl.Act{tick(209), take(plain)}, gateHaving(at(g, 209), c), c)
	wantPlay(t, g, []impl.Act{tick(210), take(plain)}, at(g, 210))
	// Asked for in time, too late, twice; not asked for.
	none := g
	none.Asked = table(4)
	wantPlay(t, none, []impl.Act{tick(150), take(full)}, at(none, 150))
	wantPlay(t, none, []impl.Act{take(full), ask("r1", 151), take(full), tick(150), take(full), take(full)}, gateHaving(at(none, 150), other), other)
	wantPlay(t, none, []impl.Act{ask("r1", 150), tick(150), take(full)}, at(none, 150))
	again := gateHaving(at(none, 150), other)
	again.Asked = table(4, "r1 155")
	wantPlay(t, none, []impl.Act{tick(150), ask("r1", 5), take(full), ask("r1", 5), take(full)}, again, other)
}

func TestPlayOfMostActs(t *testing.T) {
	g := plainGate()
	g.Now, g.Asked, g.Heard = 100, table(20), table(20)
	var claims []impl.Claim
	var takes []impl.Act
	for i := range 20 {
		c := claimOf(fmt.Sprintf("k%02d", i), "")
		claims, takes = append(claims, c), append(takes, take(impl.Sent(mustMake(t, houseKey, c, "", false))))
	}
	for count := range 130 {
		want := g
		want.Now = 100 + int64(count)
		if count > mostActs {
			want = impl.Gate{}
		}
		if count < 100 {
			wantPlay(t, g, slices.Repeat([]impl.Act{tick(1)}, count), want)
		}
		want.Now = min(want.Now, 100)
		// Those that change nothing count as well.
		for _, nothing := range []impl.Act{{}, tick(-1), ask("R", 1), take("?")} {
			wantPlay(t, g, slices.Repeat([]impl.Act{nothing}, count), want)
		}
		// Let in are those that come first, each once.
		list := slices.Repeat(takes, 7)[:count]
		if count > mostActs {
			wantPlay(t, g, list, impl.Gate{})
			continue
		}
		let := claims[:min(20, count)]
		for _, c := range let {
			want = gateHaving(want, c)
		}
		wantPlay(t, g, list, want, let...)
	}
	for _, count := range []int{255, 256, 256 + 60, 1 << 16} {
		wantPlay(t, g, slices.Repeat([]impl.Act{take("?")}, count), impl.Gate{})
		wantPlay(t, g, make([]impl.Act, count), impl.Gate{})
	}
}

// twoGate lets in what both Claims of the tests below say, whichever Hand says so.
func twoGate() impl.Gate {
	g := plainGate()
	g.Asked, g.Heard = table(4, "r1 500", "r2 500"), table(4)
	return g
}

func secondClaim() impl.Claim {
	return impl.Claim{Id: "k2", Issuer: "two", Subject: "bob", From: 120, To: 300, For: "gate", Answers: "r2", Facts: attrs("mail", "b > a")}
}

// A pair are two letters that were Made, what they say, and whether they are sealed outside.
type pair struct {
	nodes  [2][]impl.Node
	claims [2]impl.Claim
	outer  [2]bool
}

// eachPair goes through both ways to seal of each of the two, whichever is the one and which the other.
func eachPair(t *testing.T, do func(p pair)) {
	t.Helper()
	claims, keys, ids := [2]impl.Claim{fullClaim(), secondClaim()}, [2]impl.Key{houseKey, thirdKey}, [2]string{"m1", "m2"}
	claims[0].Facts = attrs("role", "a < b")
	for ways := range 8 {
		p := pair{outer: [2]bool{ways&2 > 0, ways&4 > 0}}
		for place, which := range [2]int{ways & 1, 1 - ways&1} {
			p.claims[place] = claims[which]
			p.nodes[place] = mustMake(t, keys[which], claims[which], ids[which], p.outer[place])
		}
		do(p)
	}
}

// allParts are the SealParts of all that is sealed there.
func allParts(nodes []impl.Node) []string {
	var parts []string
	for at := range int64(len(nodes)) {
		parts = append(parts, impl.SealParts(nodes, at)...)
	}
	return parts
}

// wantOneOfBoth holds promise 19 of what two that were Made were Edited to: what is let in is what one of both says, or two unlike SealParts clash. It tells which one is let in, or 2, and the code.
func wantOneOfBoth(t *testing.T, p pair, list []impl.Edit) (int, int64) {
	t.Helper()
	edited := mustEdit(t, p.nodes[0], p.nodes[1], list...)
	g := twoGate()
	in, c, code := impl.Happen(g, take(impl.Sent(edited)))
	if code != impl.GtOk {
		if !sameGate(in, g) || !sameClaim(c, impl.Claim{}) {
			t.Errorf("%+v is refused by %d, and there is %+v, %+v", edited, code, in, c)
		}
		return 2, code
	}
	for which, said := range p.claims {
		if sameClaim(c, said) {
			if !sameGate(in, gateHaving(g, said)) {
				t.Errorf("by %+v the Gate became %+v", said, in)
			}
			return which, code
		}
	}
	if !impl.Clash(slices.Concat(allParts(p.nodes[0]), allParts(p.nodes[1]), allParts(edited))) {
		t.Errorf("%+v, which neither says, is let in by %+v", c, edited)
	}
	return 2, code
}

// Promise 19 of each single Edit.
func TestEachEditOfLettersMade(t *testing.T) {
	names := []string{"x", "c:Claim", "l:Claim", "l:Letter", "c:Subject", "s:Seal", "c:Fact", "Claim"}
	let, codes := [3]int{}, map[int64]int{}
	eachPair(t, func(p pair) {
		size, more := int64(len(p.nodes[0])), int64(len(p.nodes[1]))
		var list []impl.Edit
		for at := range size {
			list = append(list, prune(at), wrap(at, names[0]))
			for from := range size {
				list = append(list, graft(at, from))
			}
			for from := range more {
				list = append(list, graftOther(at, from))
			}
			for _, name := range names[1:] {
				list = append(list, wrap(at, name))
			}
		}
		for _, e := range list {
			which, code := wantOneOfBoth(t, p, edits(e))
			let[which]++
			codes[code]++
			if t.Failed() {
				t.FailNow()
			}
		}
	})
	for _, code := range []int64{impl.GtOk, impl.GtNames, impl.GtIds, impl.GtShape, impl.GtClaim, impl.GtSeal} {
		if codes[code] < 20 {
			t.Errorf("only %d were told %d", codes[code], code)
		}
	}
	if let[0] < 100 || let[1] > 0 || let[2] < 1000 {
		t.Errorf("let in were %v", let)
	}
}

// A moveCase is what becomes of two letters by Edits: which of both is let in (2: none), and the code.
type moveCase struct {
	list  []impl.Edit
	which int
	code  int64
}

// In each letter of a pair the Claim stands at 1, its Issuer at 2, its Subject at 4, its Term at 6, its Answers at 9, its Fact at 11, and the seal at 13.
const (
	claimPlace = 1
	sealPlace  = 13
)

// movesAnyway end likewise whichever way both are sealed.
func movesAnyway() []moveCase {
	return []moveCase{
		{nil, 0, 0}, {edits(wrap(5, "x"), graftOther(0, 5), prune(0), graft(0, 99), graftOther(5, 0), wrap(1, ""), impl.Edit{Kind: 5, At: 1}), 0, 0},
		// Put there and taken away again.
		{edits(graftOther(0, sealPlace), prune(14)), 0, 0}, {edits(graft(0, 0), prune(14)), 0, 0}, {edits(graftOther(0, 0), prune(14)), 0, 0},
		// The Claim alone moves to the end, or is wrapped, taken out, and what wrapped it left out.
		{edits(graft(0, claimPlace), prune(claimPlace)), 0, 0}, {edits(wrap(claimPlace, "x"), graft(0, 2), prune(1)), 0, 0},
		// The Claim is not where it should be, or there are two.
		{edits(wrap(claimPlace, "x")), 2, 5}, {edits(wrap(claimPlace, "l:Letter")), 2, 5}, {edits(wrap(claimPlace, "l:Claim")), 2, 5}, {edits(prune(claimPlace)), 2, 5}, {edits(graftOther(0, claimPlace)), 2, 5}, {edits(graftOther(claimPlace, claimPlace)), 2, 5}, {edits(graftOther(2, claimPlace)), 2, 5}, {edits(graftOther(0, 0)), 2, 5}, {edits(prune(claimPlace), graftOther(0, 0)), 2, 5}, {edits(wrap(4, "c:Claim")), 2, 5},
		// Each Id once, each prefix with a meaning.
		{edits(graft(0, claimPlace)), 2, 4}, {edits(graft(0, 0)), 2, 4}, {edits(graft(2, 0)), 2, 4}, {edits(graft(2, claimPlace)), 2, 4}, {edits(graft(0, 4)), 2, 3}, {edits(graftOther(0, 4)), 2, 3}, {edits(wrap(claimPlace, "c:Claim")), 2, 3}, {edits(wrap(4, "q:x")), 2, 3},
		// The Claim says it not at all, or twice.
		{edits(graft(claimPlace, 4)), 2, 6}, {edits(graftOther(claimPlace, 4)), 2, 6}, {edits(prune(4)), 2, 6}, {edits(prune(5)), 2, 6}, {edits(wrap(4, "x")), 2, 6}, {edits(wrap(4, "c:Subject")), 2, 6}, {edits(wrap(2, "x")), 2, 6}, {edits(prune(6)), 2, 6}, {edits(graft(claimPlace, 11)), 2, 6}, {edits(graftOther(claimPlace, 6)), 2, 6}, {edits(wrap(11, "c:Fact")), 2, 6},
		// It says it otherwise than it was sealed.
		{edits(prune(4), graftOther(claimPlace, 4)), 2, 8}, {edits(prune(2), graftOther(claimPlace, 2)), 2, 8}, {edits(prune(6), graftOther(claimPlace, 6)), 2, 8}, {edits(prune(9), graftOther(claimPlace, 9)), 2, 8}, {edits(graftOther(claimPlace, 11)), 2, 8}, {edits(prune(9)), 2, 8}, {edits(prune(11)), 2, 8}, {edits(wrap(9, "x")), 2, 8}, {edits(wrap(11, "x")), 2, 8}, {edits(wrap(11, "l:x")), 2, 8}, {edits(graft(claimPlace, 4), prune(4)), 2, 8}, {edits(graftOther(2, 4)), 2, 8}, {edits(graft(4, 9)), 2, 8},
		// There is no seal, or it is none any more, or another's.
		{edits(prune(sealPlace)), 2, 8}, {edits(wrap(sealPlace, "x")), 2, 8}, {edits(graft(sealPlace, sealPlace)), 2, 8}, {edits(prune(sealPlace), graftOther(claimPlace, sealPlace)), 2, 8}, {edits(prune(sealPlace), graftOther(0, sealPlace)), 2, 8}, {edits(graft(2, sealPlace)), 2, 8}, {edits(graft(4, sealPlace), prune(14)), 2, 8},
	}
}

func movesOf(outer, otherOuter bool) []moveCase {
	list := movesAnyway()
	if outer {
		// Whatever is put into what is sealed outside spoils it; what was sealed is in order again where the seal alone has moved.
		list = append(list, moveCase{edits(graftOther(0, sealPlace)), 2, 8}, moveCase{edits(graft(0, sealPlace)), 2, 8}, moveCase{edits(graft(claimPlace, sealPlace)), 2, 8}, moveCase{edits(graft(0, sealPlace), prune(sealPlace)), 0, 0}, moveCase{edits(graft(claimPlace, sealPlace), prune(14)), 2, 8}, moveCase{edits(wrap(sealPlace, "Seal")), 2, 8}, moveCase{edits(graft(claimPlace, 11), prune(11)), 0, 0})
	} else {
		// Around what is sealed within anything may stand, and what seals it may stand anywhere in it.
		list = append(list, moveCase{edits(graftOther(0, sealPlace)), 0, 0}, moveCase{edits(graft(0, sealPlace)), 0, 0}, moveCase{edits(graft(claimPlace, sealPlace)), 2, 8}, moveCase{edits(graft(0, sealPlace), prune(sealPlace)), 2, 8}, moveCase{edits(graft(claimPlace, sealPlace), prune(sealPlace)), 0, 0}, moveCase{edits(graft(claimPlace, 11), prune(11)), 0, 0}, moveCase{edits(graftOther(0, sealPlace), wrap(14, "l:Letter"), graft(14, 14)), 0, 0})
	}
	// Of the other one all is let in that holds its seal.
	swap, bare := moveCase{edits(graftOther(0, claimPlace), prune(claimPlace)), 1, 0}, moveCase{edits(prune(claimPlace), graftOther(0, claimPlace), graftOther(0, sealPlace)), 1, 0}
	if otherOuter {
		swap.which, swap.code, bare.which, bare.code = 2, 8, 2, 8
	}
	return append(list, swap, bare)
}

// Promise 19 of what others do, told one by one.
func TestMovesOfLettersMade(t *testing.T) {
	eachPair(t, func(p pair) {
		for _, c := range movesOf(p.outer[0], p.outer[1]) {
			edited := mustEdit(t, p.nodes[0], p.nodes[1], c.list...)
			wantEdited(t, p.nodes[0], p.nodes[1], c.list, answer{edited, true})
			if which, code := wantOneOfBoth(t, p, c.list); which != c.which || code != c.code {
				t.Errorf("of %v by %+v, %d is let in, the code is %d, not %d, %d: %s", p.outer, c.list, which, code, c.which, c.code, impl.ShowTree(edited))
			}
			g := twoGate()
			want, said, code := expectedConsumed(g, impl.Sent(edited))
			wantHappen(t, g, take(impl.Sent(edited)), want, said, code)
			if code != 0 {
				wantPlay(t, g, []impl.Act{take(impl.Sent(edited))}, g)
				continue
			}
			// As it was Made, and as it was Edited, it is one letter: let in once.
			wantPlay(t, g, []impl.Act{take(impl.Sent(edited)), take(impl.Sent(p.nodes[c.which])), ask(said.Answers, 9), take(impl.Sent(edited)), take(impl.Sent(p.nodes[c.which]))}, expectedAsked(want, said.Answers, 9), said)
		}
	})
}

func expectedAsked(g impl.Gate, id string, by int64) impl.Gate {
	g, _, _ = expectedHappen(g, ask(id, by))
	return g
}

// Promise 19 of many Edits one behind the other.
func TestLettersMadeAndEditedInWhateverWay(t *testing.T) {
	names := []string{"x", "x", "c:Claim", "l:Claim", "l:Letter", "c:Subject", "l:Subject", "s:Seal", "c:Fact", "c:Answers", "Claim", "p:x"}
	var pairs []pair
	eachPair(t, func(p pair) { pairs = append(pairs, p) })
	let, codes := [3]int{}, map[int64]int{}
	for seed := range 6000 {
		next := dice(seed)
		p := pairs[next(len(pairs))]
		var list []impl.Edit
		if next(4) == 0 {
			// From here on it is the other one's letter, most of it.
			list = edits(graftOther(0, claimPlace), prune(claimPlace))
		}
		for range 1 + next(6) {
			switch next(5) {
			case 0:
				move := movesOf(p.outer[0], p.outer[1])
				list = append(list, move[next(len(move))].list...)
			case 1:
				// Mostly into the Letter, where it may say nothing.
				list = append(list, graftOther(0, int64(next(14))))
			default:
				list = append(list, impl.Edit{Kind: int64(1 + next(4)), At: int64(next(20)), From: int64(next(16)), Name: names[next(len(names))]})
			}
		}
		which, code := wantOneOfBoth(t, p, list[:min(len(list), mostEdits)])
		let[which]++
		codes[code]++
		if t.Failed() {
			t.FailNow()
		}
	}
	if let[0] < 300 || let[1] < 100 || let[2] < 2000 || len(codes) < 6 {
		t.Errorf("let in were %v, the codes were %v", let, codes)
	}
}

// Names that were worked out apart from the program: what is wrapped by them has the Hash that it had without.
func TestTwoUnlikePartsThatClash(t *testing.T) {
	const answersPlace, factPlace = 9, 11
	whole := fullClaim()
	whole.Facts = attrs("role", "a < b")
	lessFact, lessAnswers := copiedClaim(whole), whole
	lessFact.Facts, lessAnswers.Answers = nil, ""
	for _, c := range []struct {
		outer bool
		at    int64
		names []string
		said  impl.Claim
	}{
		{false, factPlace, []string{"CiEczQ", "TgVLqp", "wJWHnB", "EHsVbz"}, lessFact}, {false, answersPlace, []string{"rmDnvL", "YlRuph", "EskXuv"}, lessAnswers},
		{true, factPlace, []string{"eaatBS", "MGsIes", "VQoZtM"}, lessFact}, {true, answersPlace, []string{"CsNduJ", "YKctXe", "SjDLlT"}, lessAnswers},
	} {
		made, other := mustMake(t, houseKey, whole, "m1", c.outer), mustMake(t, thirdKey, secondClaim(), "m2", c.outer)
		p := pair{nodes: [2][]impl.Node{made, other}, claims: [2]impl.Claim{whole, secondClaim()}}
		for _, name := range c.names {
			list := edits(wrap(c.at, name))
			if which, code := wantOneOfBoth(t, p, list); which != 2 || code != impl.GtOk {
				t.Errorf("by %q it is not let in: %d, %d", name, which, code)
			}
			edited := mustEdit(t, made, other, list...)
			wantPlay(t, twoGate(), []impl.Act{take(impl.Sent(edited))}, gateHaving(twoGate(), c.said), c.said)
			parts, forgedParts := impl.SealParts(made, sealPlace), impl.SealParts(edited, sealPlace+1)
			if len(parts) != 2 || len(forgedParts) != 2 || parts[0] == forgedParts[0] || parts[1] != forgedParts[1] || !impl.Clash(slices.Concat(parts, forgedParts)) || impl.Clash(parts) {
				t.Errorf("the parts are %q and %q", parts, forgedParts)
			}
			// By one letter of the Name it is another Hash.
			for i := range name {
				changed := name[:i] + strings.Replace("x", name[i:i+1], "y", 1) + name[i+1:]
				if which, code := wantOneOfBoth(t, p, edits(wrap(c.at, changed))); which != 2 || code != impl.GtSeal {
					t.Errorf("by %q too: %d, %d", changed, which, code)
				}
			}
		}
	}
}

// playLetters are of few Ids, Terms and questions; most are Made as they should be, and some of these Edited.
func playLetters(t *testing.T, next func(int) int, count int) []string {
	t.Helper()
	var trees [][]impl.Node
	for range count {
		c := claimOf([]string{"k1", "k2", "k3"}[next(3)], []string{"", "", "q1", "q2"}[next(4)])
		c.From, c.Subject = []int64{0, 20}[next(2)], []string{"ann", "bob"}[next(2)]
		c.To = c.From + []int64{10, 40, 41, 200}[next(4)]
		c.Issuer = []string{"idp", "idp", "idp", "two"}[next(4)]
		k := houseKey
		if c.Issuer == "two" {
			k = thirdKey
		}
		trees = append(trees, mustMake(t, k, c, "m1", next(2) == 0))
	}
	moves := movesAnyway()
	for range count {
		one, other := trees[next(count)], trees[next(count)]
		list := moves[next(len(moves))].list
		switch next(3) {
		case 0:
			list = edits(graftOther(0, claimPlace), prune(claimPlace))
		case 1:
			list = edits(strewnEdit(next, 14), strewnEdit(next, 14))
		}
		trees = append(trees, mustEdit(t, one, other, list...))
	}
	letters := []string{"", "?"}
	for _, nodes := range trees {
		letters = append(letters, impl.Sent(nodes))
	}
	return letters
}

func strewnActs(next func(int) int, letters []string, most int) []impl.Act {
	var list []impl.Act
	for range next(most) {
		switch next(9) {
		case 0, 1:
			list = append(list, tick([]int64{0, 1, 2, 5, 9, -1}[next(6)]))
		case 2, 3:
			list = append(list, ask([]string{"q1", "q2", "q1", "q2", "k1", "Q"}[next(6)], int64(next(60))-5))
		case 4:
			list = append(list, []impl.Act{{}, {Kind: 4, Id: "q1", Text: letters[2]}, tick(farNumber(next) % 5), ask("q1", farNumber(next)), {Kind: farNumber(next)}}[next(5)])
		default:
			list = append(list, take(letters[next(len(letters))]))
		}
	}
	return list
}

// wantPlayStepByStep holds of a play what Happen tells one behind the other, and the rest of promise 19: no Id with one To is let in twice, and no question is answered twice. It tells how many are let in.
func wantPlayStepByStep(t *testing.T, g impl.Gate, list []impl.Act) int {
	t.Helper()
	start, let, open := g, map[string]int{}, map[string]int{}
	for _, row := range g.Asked.Rows {
		open[row.Id]++
	}
	var said []impl.Claim
	for at, a := range list {
		next, c, code := impl.Happen(g, a)
		if !impl.GateOk(next) || code != 0 && !sameGate(next, g) {
			t.Fatalf("at %+v, by %+v, %+v became %+v", list[:at], a, g, next)
		}
		g = next
		if code != 0 || a.Kind == impl.AcTick {
			continue
		}
		if a.Kind == impl.AcAsk {
			open[a.Id]++
			continue
		}
		said = append(said, c)
		if key := fmt.Sprint(c.Id, " ", c.To); let[key] > 0 {
			t.Errorf("by %+v %s is let in twice", list[:at+1], key)
		} else {
			let[key]++
		}
		if c.Answers == "" {
			continue
		}
		if open[c.Answers]--; open[c.Answers] < 0 {
			t.Errorf("by %+v %s is answered twice", list[:at+1], c.Answers)
		}
	}
	wantPlay(t, start, list, g, said...)
	return len(said)
}

// The rest of promise 19, in whatever play.
func TestPlaysOfManyActs(t *testing.T) {
	many, let, answered := 0, 0, 0
	for seed := range 150 {
		next := dice(seed)
		g, ok := impl.NewGate("gate", fourHands()[:2], []int64{0, 1, 10, 60}[next(4)], int64(1+next(4)))
		if !ok {
			t.Fatal("no gate")
		}
		letters := playLetters(t, next, 4)
		for range 2 {
			list := strewnActs(next, letters, mostActs+1)
			in := wantPlayStepByStep(t, g, list)
			let += in
			if in > 1 {
				many++
			}
			_, said := impl.Play(g, list)
			for _, c := range said {
				if c.Answers != "" {
					answered++
				}
			}
			if t.Failed() {
				t.FailNow()
			}
		}
	}
	if many < 100 || let < 300 || answered < 50 {
		t.Errorf("%d were let in, %d of them answered, in %d plays more than one", let, answered, many)
	}
}

// One letter, as it was Made and Edited in each way that lets it in, comes on and on till it is past its Term, and a while longer.
func TestNoLetterIsLetInTwiceInAPlay(t *testing.T) {
	for _, to := range []int64{101, 140, lastTime - 5, lastTime} {
		for _, skew := range []int64{0, 1, 30} {
			for _, outer := range []bool{false, true} {
				c := plainClaim()
				c.To = to
				made := mustMake(t, houseKey, c, "m1", outer)
				copies := []string{impl.Sent(made), impl.Sent(mustEdit(t, made, made, graft(0, claimPlace), prune(claimPlace))), impl.Sent(mustMake(t, houseKey, c, "m2", !outer))}
				g := plainGate()
				g.Skew, g.Now, g.Heard = skew, 100, table(1)
				for first := range copies {
					var list []impl.Act
					for i := range 30 {
						step := int64(5)
						if to > 1000 && i == 10 {
							// As close to the end as to see it go by.
							step = lastTime - 180
						}
						list = append(list, take(copies[(first+i)%3]), tick(step))
					}
					if let := wantPlayStepByStep(t, g, list); let != 1 {
						t.Errorf("of %+v, skew %d: %d are let in", c, skew, let)
					}
				}
			}
		}
	}
}

// With another To one Id may be let in again, once the first one is no more held.
func TestOneIdWithAnotherTo(t *testing.T) {
	short, long := plainClaim(), plainClaim()
	short.To, long.To = 150, 400
	one, two := impl.Sent(mustMake(t, houseKey, short, "m1", true)), impl.Sent(mustMake(t, houseKey, long, "", false))
	g := plainGate()
	g.Skew, g.Now, g.Heard = 10, 100, table(4)
	end, _ := expectedTicked(g, 60)
	wantPlay(t, g, []impl.Act{take(one), take(two), tick(59), take(two), tick(1), take(two), take(one), take(two)}, gateHaving(end, long), short, long)
	late, _ := expectedTicked(gateHaving(g, long), 60)
	wantPlay(t, g, []impl.Act{take(two), take(one), tick(60), take(one), take(two)}, late, long)
}

// On whatever many processors, whichever text is read first, and however long it takes: a Play is told the same.
func TestAPlayToldTwiceIsTheSame(t *testing.T) {
	defer runtime.GOMAXPROCS(runtime.GOMAXPROCS(0))
	g := plainGate()
	g.Now, g.Asked, g.Heard = 100, table(20), table(20)
	filler := impl.ToLetters(`<a>` + strings.Repeat(`<b x="&quot;"/>`, 49) + `</a>`)
	for seed := range 12 {
		next := dice(seed)
		want, list, said := g, []impl.Act{}, []impl.Claim{}
		for i := range 20 {
			c := claimOf(fmt.Sprintf("k%02d", (7*i+seed)%20), "")
			c.Subject = fmt.Sprintf("s%d", i)
			made := mustMake(t, houseKey, c, "", false)
			for range next(2) * next(30) {
				made = withGraft(t, made, 0, `<x y="z"/>`)
			}
			want, said = gateHaving(want, c), append(said, c)
			list = append(list, []impl.Act{take(filler), take("?"), {}, take(firstLetter(list))}[next(4)], take(impl.Sent(made)))
		}
		wantPlay(t, g, list, want, said...)
		for _, processors := range []int{1, 2, 3, 8, 16} {
			runtime.GOMAXPROCS(processors)
			for range 6 {
				if got, claims := impl.Play(g, list); !sameGate(got, want) || !sameClaims(claims, said) {
					t.Fatalf("on %d processors Play(%+v, %+v) = %+v, %+v, not %+v, %+v", processors, g, list, got, claims, want, said)
				}
			}
		}
	}
}

// firstLetter is the first letter that is taken: what was let in comes again.
func firstLetter(list []impl.Act) string {
	for _, a := range list {
		if a.Kind == impl.AcTake && len(a.Text) > 400 {
			return a.Text
		}
	}
	return ""
}

// Who reads is done when Play answers: none is left, however many there were.
func TestNobodyReadsAnyMoreWhenPlayAnswers(t *testing.T) {
	before := runtime.NumGoroutine()
	list := slices.Repeat([]impl.Act{take(impl.Sent(mustMake(t, houseKey, plainClaim(), "", false))), take("?"), tick(0)}, 20)
	for range 50 {
		impl.Play(plainGate(), list)
		impl.Play(plainGate(), append(list, list...))
		impl.Play(impl.Gate{}, list)
	}
	// One that is done may take a moment to be gone.
	for range 2000 {
		if runtime.NumGoroutine() <= before {
			return
		}
		time.Sleep(time.Millisecond)
	}
	t.Errorf("there were %d, now there are %d", before, runtime.NumGoroutine())
}

func layEdits(list []impl.Edit) ([]impl.Edit, func(t *testing.T)) {
	whole := make([]impl.Edit, 0, len(list)+2)
	var texts []string
	var buffers [][]byte
	for _, e := range list {
		name, buffer := laid(e.Name)
		texts, buffers = append(texts, e.Name), append(buffers, buffer)
		whole = append(whole, impl.Edit{Kind: e.Kind, At: e.At, From: e.From, Name: name})
	}
	given := whole
	whole = append(whole, wrap(1, "spare"), prune(1))
	before := slices.Clone(whole)
	return given, func(t *testing.T) {
		t.Helper()
		if !slices.Equal(given, list) || !slices.Equal(whole, before) {
			t.Errorf("the Edits %+v became %+v", before, whole)
		}
		buffersStay(t, texts, buffers)
	}
}

func layActs(list []impl.Act) ([]impl.Act, func(t *testing.T)) {
	whole := make([]impl.Act, 0, len(list)+2)
	var texts []string
	var buffers [][]byte
	for _, a := range list {
		id, buffer := laid(a.Id)
		letters, other := laid(a.Text)
		texts, buffers = append(texts, a.Id, a.Text), append(buffers, buffer, other)
		whole = append(whole, impl.Act{Kind: a.Kind, By: a.By, Id: id, Text: letters})
	}
	given := whole
	whole = append(whole, tick(7), ask("spare", 7))
	before := slices.Clone(whole)
	return given, func(t *testing.T) {
		t.Helper()
		if !slices.Equal(given, list) || !slices.Equal(whole, before) {
			t.Errorf("the Acts %+v became %+v", before, whole)
		}
		buffersStay(t, texts, buffers)
	}
}

// Promise 21 for chapter 19: what is Edited.
func TestEditedIsNewMemoryAndArgumentsStay(t *testing.T) {
	lists := [][]impl.Edit{
		nil, edits(impl.Edit{}), edits(prune(1)), edits(prune(0)), edits(graft(0, 2)), edits(graft(0, 0)), edits(graftOther(0, 0)), edits(graftOther(2, 1)), edits(graftOther(0, 99)), edits(wrap(2, "w")), edits(wrap(2, "1")),
		edits(graftOther(0, 0), wrap(2, "w"), prune(1), wrap(1, "w"), graft(0, 1), graftOther(1, 0)), slices.Repeat(edits(wrap(2, "w")), 3), slices.Repeat(edits(impl.Edit{Name: "w"}), 21),
	}
	for i, given := range append(memoryTrees(), mustMake(t, houseKey, fullClaim(), "m1", true)) {
		tree := layTree(given)
		others := []laidTree{layTree(letterTree(t, `<z x="1">w<y x="1"/></z>`)), tree}
		if i%4 == 0 {
			others = append(others, layTree(noTrees()[i%len(noTrees())]))
		}
		for _, other := range others {
			for _, list := range lists {
				own, stays := layEdits(list)
				got, ok := impl.Edited(tree.nodes, other.nodes, own)
				again, _ := impl.Edited(tree.nodes, other.nodes, own)
				wantOwn(t, "Edited", got, tree, other)
				wantOwn(t, "Edited", again, tree, other)
				wantApart(t, "Edited", nodeTokens(again), nodeTokens(got))
				if sharesRoom(got, again) {
					t.Errorf("Edited tells one list twice: %+v", got)
				}
				for _, e := range own {
					for _, n := range slices.Concat(got, again) {
						if sharesMemory(n.Name, e.Name) {
							t.Errorf("the Name %q of an Edit lies in %+v", e.Name, n)
						}
					}
				}
				stays(t)
				shown := impl.ShowTree(again)
				spoilNodes(got)
				if ok && impl.ShowTree(again) != shown {
					t.Errorf("%q became %q", shown, impl.ShowTree(again))
				}
				tree.stays(t)
				other.stays(t)
				stays(t)
			}
		}
		if t.Failed() {
			t.FailNow()
		}
	}
}

// Promise 21 for chapter 19: a tree may be its own other one, or lie in its memory.
func TestEditedByAPieceOfItself(t *testing.T) {
	nodes := letterTree(t, `<a x="1">x<b><c y="2"/></b></a>`)
	tree := layTree(nodes)
	for _, other := range [][]impl.Node{tree.nodes, tree.nodes[:1], tree.nodes[:3], tree.whole, tree.whole[:1:1], tree.nodes[1:]} {
		for _, list := range [][]impl.Edit{nil, edits(graftOther(0, 0)), edits(prune(1), graftOther(2, 0), wrap(1, "w")), edits(graftOther(3, 0), graftOther(3, 0), graft(0, 2))} {
			got, ok := impl.Edited(tree.nodes, other, list)
			wantTold(t, "Edited", nodes, 0, answer{got, ok}, told(expectedEdited(nodes, slices.Clone(other), list)))
			wantOwn(t, "Edited", got, tree)
		}
	}
}

// Promise 21 for chapter 19: what happens and what is played.
func TestPlayAnswersAreNewMemoryAndArgumentsStay(t *testing.T) {
	first, second := plainClaim(), fullClaim()
	second.Id = "k2"
	plain, full := impl.Sent(mustMake(t, houseKey, first, "", false)), impl.Sent(mustMake(t, houseKey, second, "m1", true))
	acts := []impl.Act{
		take(plain), take(full), tick(0), tick(50), tick(-1), ask("r3", 50), ask("r1", 50), ask("R", 50), ask("r3", -lastTime-1), take("?"), {}, {Kind: 5, Id: "r3", Text: plain}, take(plain), take(full), take(full),
	}
	lists := [][]impl.Act{nil, acts, slices.Repeat(acts, 4), slices.Repeat(acts, 5), {take(full), take(plain), take(full)}, {ask("r5", 60), take("?"), take(plain)}}
	wrong := plainGate()
	wrong.Skew = -1
	let := 0
	for i, gate := range append(rightGates(), wrong, impl.Gate{}) {
		given, gateStays := layGate(gate)
		for _, list := range append(lists[:1+i%5:1+i%5], lists[5]) {
			own, actsStay := layActs(list)
			stays := func(t *testing.T) {
				t.Helper()
				gateStays(t)
				actsStay(t)
			}
			var texts []string
			for _, a := range own {
				texts = append(texts, a.Id, a.Text)
			}
			got, said := impl.Play(given, own)
			again, saidAgain := impl.Play(given, own)
			answers, claims := []impl.Gate{got, again}, slices.Concat(said, saidAgain)
			if sharesRoom(said, saidAgain) {
				t.Errorf("Play tells one list twice: %+v", said)
			}
			let += len(said)
			for _, a := range own[:min(len(own), len(acts))] {
				one, c, _ := impl.Happen(given, a)
				answers, claims = append(answers, one), append(claims, c)
			}
			wantGatesApart(t, given, texts, answers, claims)
			before := slices.Clone(saidAgain)
			for j, c := range saidAgain {
				before[j] = copiedClaim(c)
			}
			for _, c := range said[:cap(said)] {
				for j := range c.Facts[:cap(c.Facts)] {
					c.Facts[:cap(c.Facts)][j] = impl.Attr{Name: "changed", Value: "changed"}
				}
			}
			clear(said[:cap(said)])
			if !sameClaims(saidAgain, before) {
				t.Errorf("the Claims %+v became %+v", before, saidAgain)
			}
			wantGatesOwn(t, answers, stays)
			if t.Failed() {
				t.FailNow()
			}
		}
	}
	if let < 40 {
		t.Errorf("only %d were let in", let)
	}
}

// Promise 21 for chapter 19: the parts of a seal.
func TestSealPartsAreNewMemoryAndTheTreeStays(t *testing.T) {
	trees := append(memoryTrees(), mustMake(t, houseKey, fullClaim(), "m1", true), mustMake(t, houseKey, plainClaim(), "", false), letterTree(t, `<a Id="x1">`+someSeal+`</a>`), letterTree(t, `<a Id="x2">`+someSeal+`</a>`))
	for seed := range 30 {
		if sealed, _ := strewnSealed(t, dice(seed), seed, houseKey); len(sealed) > 0 {
			trees = append(trees, sealed)
		}
	}
	count := 0
	for _, given := range trees {
		tree := layTree(given)
		all := tokenTexts(nodeTokens(tree.nodes))
		for at := int64(-1); at <= int64(len(given)); at++ {
			parts, again := impl.SealParts(tree.nodes, at), impl.SealParts(tree.nodes, at)
			if sharesRoom(parts, again) || !slices.Equal(parts, again) {
				t.Errorf("SealParts tells %q, then %q", parts, again)
			}
			for _, part := range slices.Concat(parts, again) {
				count++
				if slices.ContainsFunc(all, func(other string) bool { return sharesMemory(part, other) }) {
					t.Errorf("the part %q lies in the tree, or in another one", part)
				}
				all = append(all, part)
			}
		}
		tree.stays(t)
	}
	if count < 40 {
		t.Errorf("only %d parts", count)
	}
}

// Promise 21 for chapter 19: an answer to whatever is given, and the same one each time.
func TestPlayFunctionsAnswerEverywhere(t *testing.T) {
	words := append(append(noIds(), noWords()...), "a", "r1", "r3", longestId)
	letters := []string{"", "?", "QQ==", impl.ToLetters(allBytes()), impl.ToLetters("<a/>"), strings.Repeat("A", 1<<16)}
	for seed := range 6 {
		letters = append(letters, playLetters(t, dice(seed), 4)...)
	}
	trees, right, parts := 0, 0, 0
	for seed := range 800 {
		next := dice(seed)
		nodes, other := anyNodes(next), anyNodes(next)
		if next(2) == 0 {
			nodes, _ = strewnSealed(t, next, next(100), houseKey)
		}
		if next(2) == 0 {
			other = strewnTree(next(40))
		}
		list := strewnEdits(next, 8)
		for i := range list {
			if next(8) == 0 {
				list[i] = impl.Edit{Kind: int64(next(6)), At: farNumber(next), From: farNumber(next), Name: words[next(len(words))]}
			}
		}
		want := told(expectedEdited(nodes, other, list))
		if want.ok {
			trees++
		}
		g := strewnGate(next)
		if expectedGateOk(g) {
			right++
		}
		a := impl.Act{Kind: int64(cmp.Or(next(4), next(6)-1)), By: farNumber(next) % []int64{10, lastTime + 2, math.MaxInt64}[next(3)], Id: words[next(len(words))], Text: letters[next(len(letters))]}
		acts := append(strewnActs(next, letters, 8), a, take(strewnText(next, allBytes(), 40)))
		becomes, said, code := expectedHappen(g, a)
		end, claims := expectedPlay(g, acts)
		for range 2 {
			wantEdited(t, nodes, other, list, want)
			wantHappen(t, g, a, becomes, said, code)
			wantPlay(t, g, acts, end, claims...)
			parts += checkSealParts(t, nodes)
			wantSealParts(t, nodes, farNumber(next))
		}
		if t.Failed() {
			t.FailNow()
		}
	}
	if trees < 80 || right < 150 || parts < 200 {
		t.Errorf("%d were trees, %d Gates were right, of %d seals were parts", trees, right, parts)
	}
}
