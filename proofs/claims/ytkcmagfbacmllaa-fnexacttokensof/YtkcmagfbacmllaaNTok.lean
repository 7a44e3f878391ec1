/- Contracts of what the exact laws call on tokens: sized, copied, compared; a token among the arguments, opened. -/
import Derived.Test.YtkcmagfbacmllaaNArg
import Derived.Test.YtkcmagfbacmllaaNOpen
namespace Go.Proofs.Ytkcmagfbacmllaa
open Go.RowKit
set_option linter.unusedVariables false
set_option linter.unusedSimpArgs false

/-- A token; a node, too (its parent for its kind). -/
structure Tk where
  kind : Int
  name : ByteArray
  attrs : List At
  text : ByteArray

/-- A token's cells, its attrs in the row at a. -/
abbrev tkV (t : Tk) (a : Option Addr) (cap : Nat) : Value := .agg #[.int .i64 t.kind, .string t.name, .slice a t.attrs.length cap, .string t.text]

def TkSz (n : Nat) (t : Tk) : Prop := t.name.size ≤ n ∧ t.attrs.length ≤ n ∧ AtSz n t.attrs ∧ t.text.size ≤ n

theorem heap3 (w : World) (A B C : Obj) : (((w.alloc A).alloc B).alloc C).heap[w.heap.size]? = some A ∧ (((w.alloc A).alloc B).alloc C).heap[w.heap.size + 1]? = some B ∧ (((w.alloc A).alloc B).alloc C).heap[w.heap.size + 2]? = some C := by
  have s1 : (w.alloc A).heap.size = w.heap.size + 1 := by simp
  have s2 : ((w.alloc A).alloc B).heap.size = w.heap.size + 2 := by simp
  refine ⟨?_, ?_, ?_⟩
  · rw [Below.heap_alloc _ _ _ (by omega), Below.heap_alloc _ _ _ (by omega)]
    exact heap_alloc_new w A
  · rw [Below.heap_alloc _ _ _ (by omega), ← s1]
    exact heap_alloc_new _ B
  · rw [← s2]
    exact heap_alloc_new _ C

theorem box4 {w : World} {g : Nat} {x y z u : Value} {T : TypeId} (h : w.heap[g]? = some (.cells #[x, y, z, u] T (0, 0))) :
    (w.cell? ⟨g, 0, none⟩ = some x ∧ w.cell? ⟨g, 1, none⟩ = some y ∧ w.cell? ⟨g, 2, none⟩ = some z ∧ w.cell? ⟨g, 3, none⟩ = some u) ∧ (w.frozen? ⟨g, 0, none⟩ = false ∧ w.frozen? ⟨g, 1, none⟩ = false ∧ w.frozen? ⟨g, 2, none⟩ = false ∧ w.frozen? ⟨g, 3, none⟩ = false) :=
  ⟨⟨by rw [Lib.cell_of_heap h]; rfl, by rw [Lib.cell_of_heap h]; rfl, by rw [Lib.cell_of_heap h]; rfl, by rw [Lib.cell_of_heap h]; rfl⟩, Lib.frozen_of_heap h 0, Lib.frozen_of_heap h 1, Lib.frozen_of_heap h 2, Lib.frozen_of_heap h 3⟩

theorem AtRow.setCell {w : World} {g o : Nat} {l : List At} (h : AtRow w (some ⟨g, o, none⟩) l) {p : Addr} (hne : ¬ g = p.block) (v : Value) : AtRow (w.setCell p v) (some ⟨g, o, none⟩) l := by
  intro j hj
  obtain ⟨b, o', e, hlt, c1, c2⟩ := h j hj
  cases e
  have hb := Below.heap_setCell w p v g hne
  refine ⟨g, o, rfl, lt_of_heap (hb.trans (Array.getElem?_eq_getElem hlt)), ?_, ?_⟩
  · rw [World.cell?_of_block (w := w) hb]; exact c1
  · rw [World.cell?_of_block (w := w) hb]; exact c2

theorem blk_below {w w1 : World} {B : Nat} {o : Obj} (h : w.heap[B]? = some o) (k : Below w.heap.size w w1) : w1.heap[B]? = some o := (k.block B (lt_of_heap h)).trans h

theorem blk_alloc {w : World} {B : Nat} {o : Obj} (h : w.heap[B]? = some o) (o' : Obj) : (w.alloc o').heap[B]? = some o := (Below.heap_alloc w o' B (lt_of_heap h)).trans h

set_option maxHeartbeats 2000000 in
theorem cSzToken (t : Tk) (a : Option Addr) (cap : Nat) (w : World) (hR : AtRow w a t.attrs) (hs : t.name.size ≤ maxLen ∧ t.attrs.length ≤ maxLen ∧ AtSz maxLen t.attrs ∧ t.text.size ≤ maxLen) :
    Calls Try.prog 59 #[tkV t a cap, .int .i64 1048576] w fun e w' => ∃ r : Int, e = .returned (.int .i64 r) ∧ (r = -1 ∨ 0 ≤ r ∧ TkSz 1048576 t) ∧ Below w.heap.size w w' := by
  obtain ⟨k, name, l, text⟩ := t
  obtain ⟨h1, h2, h3, h4⟩ := hs
  simp only at hR h1 h2 h3 h4
  have HR := hid (hR.below ((Below.refl w.heap.size w).alloc (Nat.le_refl _) (.cells #[.int .i64 k, .string name, .slice a l.length cap, .string text] 85)))
  have C := fun (L : Nat) (hL : L ≤ 1048576) (w : World) (hR : AtRow w a l) => cSzAttrS a cap l L w hR h3 h2 hL
  clear hR h3 h2
  have HT : Hid (∀ L : Nat, L ≤ 1048576 → name.size ≤ 1048576 → l.length ≤ L → AtSz L l → text.size ≤ 1048576 → TkSz 1048576 ⟨k, name, l, text⟩) :=
    fun L hL a b c d => ⟨a, by show l.length ≤ 1048576; omega, fun x hx => by have := c x hx; omega, d⟩
  simp only [tkV]
  obtain ⟨n, hn⟩ : ∃ n, l.length = n := ⟨_, rfl⟩
  rw [hn] at C HR HT ⊢
  clear hn
  unfold maxLen at h1 h4
  by_cases g1 : (1048576 : Int) - name.size < 0
  · clear C
    go_enter Try.func59, Try.ntmps59
    go_wp2
    go_ret
    exact ⟨-1, rfl, .inl rfl, (Below.refl _ _).alloc (Nat.le_refl _) _⟩
  · obtain ⟨L, hL⟩ : ∃ L : Nat, (1048576 : Int) - name.size = L := ⟨1048576 - name.size, by omega⟩
    have hL1 : L ≤ 1048576 := by omega
    have C := C L hL1
    have e1 : wrap64 (1048576 - (name.size : Int)) = (L : Int) := (IntWalk.wrap64_in _ (by omega)).trans hL
    have e2 : IntKind.i64.wrap (1048576 - (name.size : Int)) = (L : Int) := (IntWalk.i64_in _ (by omega)).trans hL
    have hn1 : name.size ≤ 1048576 := by omega
    have HL := hid hL
    clear hL g1
    go_enter Try.func59, Try.ntmps59
    go_wp2_with fail
    refine (C _ HR.out).mono ?_
    rintro e w1 ⟨r, rfl, hr, hb1⟩
    obtain ⟨hc, hf⟩ := bcell hb1
    have HB1 := hid (((Below.refl w.heap.size w).alloc (Nat.le_refl _) _).trans (hb1.mono (by simp)))
    rcases hr with rfl | ⟨r0, r1, r2, r3⟩
    · go_wp2_with fail
      go_ret
      exact ⟨-1, rfl, .inl rfl, HB1.out⟩
    · obtain ⟨R, rfl⟩ : ∃ R : Nat, r = R := ⟨r.toNat, by omega⟩
      have H3 := hid r3
      clear r3
      by_cases g2 : (R : Int) - text.size < 0
      · go_wp2
        go_ret
        exact ⟨-1, rfl, .inl rfl, HB1.out⟩
      · go_wp2
        go_ret
        exact ⟨(R : Int) - text.size, rfl, .inr ⟨by omega, HT.out L hL1 hn1 r2 H3.out (by omega)⟩, HB1.out⟩

set_option maxHeartbeats 2000000 in
theorem cToToken2 (t : Tk) (a : Option Addr) (cap : Nat) (w : World) (hR : AtRow w a t.attrs) (hn : t.attrs.length ≤ 1048576) :
    Calls Try.prog 62 #[tkV t a cap] w fun e w' => ∃ g cu, w.heap.size ≤ g ∧ e = .returned (tkV t (some ⟨g, 0, none⟩) t.attrs.length) ∧ w'.heap[g]? = some (.cells cu 115 (0, 0)) ∧ AtCells cu 0 t.attrs ∧ Below w.heap.size w w' := by
  obtain ⟨k, name, l, text⟩ := t
  simp only at hR hn
  simp only [tkV]
  obtain ⟨b1, b2, b3⟩ := heap3 w (.cells #[.int .i64 k, .string name, .slice a l.length cap, .string text] 85) (.cells #[.int .i64 0, .string ⟨#[]⟩, .slice none 0 0, .string ⟨#[]⟩] 78) (.cells #[.int .i64 k, .string name, .slice none 0 0, .string ⟨#[]⟩] 78)
  have HB0 := hid ((((Below.refl w.heap.size w).alloc (Nat.le_refl _) (.cells #[.int .i64 k, .string name, .slice a l.length cap, .string text] 85)).alloc (by simp) (.cells #[.int .i64 0, .string ⟨#[]⟩, .slice none 0 0, .string ⟨#[]⟩] 78)).alloc (by simp; omega) (.cells #[.int .i64 k, .string name, .slice none 0 0, .string ⟨#[]⟩] 78))
  have HR := hid (hR.below HB0.out)
  have C := fun (w : World) (hR : AtRow w a l) => cToAttrS2 a cap l w hR hn
  have H1 := hid b1
  have H2 := hid b2
  have H3 := hid b3
  clear b1 b2 b3 hR
  obtain ⟨n, hn⟩ : ∃ n, l.length = n := ⟨_, rfl⟩
  rw [hn] at C HR HB0 H1 H2 H3 ⊢
  clear hn
  go_enter Try.func62, Try.ntmps62
  go_wp2_with fail
  refine (C _ HR.out).mono ?_
  rintro e w1 ⟨g, cu, hg, rfl, hG1, hR1, hb1⟩
  have HR1 := hid hR1
  have HG1 := hid hG1
  have HB1 := hid (bb HB0.out hb1)
  obtain ⟨⟨x0, x1, x2, x3⟩, _⟩ := box4 (blk_below H1.out hb1)
  obtain ⟨⟨y0, y1, y2, y3⟩, yf0, yf1, yf2, yf3⟩ := box4 (blk_below H2.out hb1)
  obtain ⟨⟨z0, z1, z2, z3⟩, zf0, zf1, zf2, zf3⟩ := box4 (blk_below H3.out hb1)
  have hgw : w.heap.size + 3 ≤ g := by simpa using hg
  clear hR1 hG1 hb1 HB0 HR H1 H2 H3 C hg
  go_wp2_with fail
  refine bodyPost_ret (v := .agg #[.int .i64 k, .string name, .slice (some ⟨g, 0, none⟩) n n, .string text]) (by simp [results, Try.results62, go_sem, x0, x1, x2, x3, y0, y1, y2, y3, z0, z1, z2, z3]) rfl ⟨g, cu, by omega, rfl, ?_, HR1.out, ?_⟩
  · iterate 6 refine (Below.heap_setCell _ _ _ _ (by simp; omega)).trans ?_
    exact HG1.out
  · iterate 6 refine Below.setCell ?_ (by simp; try omega) _
    exact HB1.out

theorem cToToken (t : Tk) (a : Option Addr) (cap : Nat) (w : World) (hR : AtRow w a t.attrs) (hn : t.attrs.length ≤ 1048576) :
    Calls Try.prog 62 #[tkV t a cap] w fun e w' => ∃ g, w.heap.size ≤ g ∧ e = .returned (tkV t (some ⟨g, 0, none⟩) t.attrs.length) ∧ AtRow w' (some ⟨g, 0, none⟩) t.attrs ∧ Below w.heap.size w w' :=
  (cToToken2 t a cap w hR hn).mono fun _ _ ⟨g, cu, h1, h2, h3, h4, h5⟩ => ⟨g, h1, h2, h4.atRow h3, h5⟩

set_option maxHeartbeats 1000000 in
theorem cEqToken (t : Tk) (a c : Option Addr) (cap cap2 : Nat) (w : World) (hR : AtRow w a t.attrs) (hT : AtRow w c t.attrs) (hz : TkSz 1048576 t) :
    Calls Try.prog 65 #[tkV t a cap, tkV t c cap2] w fun e w' => e = .returned (.bool true) ∧ Below w.heap.size w w' := by
  obtain ⟨k, name, l, text⟩ := t
  obtain ⟨h1, h2, h3, h4⟩ := hz
  simp only at hR hT h1 h2 h3 h4
  simp only [tkV]
  have HB0 := hid (((Below.refl w.heap.size w).alloc (Nat.le_refl _) (.cells #[.int .i64 k, .string name, .slice a l.length cap, .string text] 78)).alloc (by simp) (.cells #[.int .i64 k, .string name, .slice c l.length cap2, .string text] 78))
  have HR := hid (hR.below HB0.out)
  have HT := hid (hT.below HB0.out)
  have C := fun (w : World) (hR : AtRow w a l) (hT : AtRow w c l) => cEqAttrS a c cap cap2 l w hR hT h3 h2
  clear hR hT h3 h2
  obtain ⟨n, hn⟩ : ∃ n, l.length = n := ⟨_, rfl⟩
  rw [hn] at C HR HT HB0 ⊢
  clear hn
  go_enter Try.func65, Try.ntmps65
  go_wp2_with fail
  refine (C _ HR.out HT.out).mono ?_
  rintro e w1 ⟨rfl, hb1⟩
  obtain ⟨hc, hf⟩ := bcell hb1
  have HB1 := hid (bb HB0.out hb1)
  have hz0 : w.heap.size + 1 < w1.heap.size := by have := hb1.size; simp at this; omega
  go_wp2_with fail
  go_ret
  exact ⟨rfl, HB1.out⟩

end Go.Proofs.Ytkcmagfbacmllaa
