/- Nodes copied one by one: contracts of the specification's l8Copy, l10Branch and Branch. Rows of nodes whose texts may be written over: a shape that stays (for the draw DrawSameCanon). What a name means: declarations, which are right, which one is the nearest (mathematics alone). -/
import Derived.Test.YtmghipjpgoghlaaGreatM16
import Derived.Test.YtmghipjpgoghlaaGreatM11
import Derived.Test.YtmghipjpgoghlaaGreatM9
import Derived.Test.YtmghipjpgoghlaaGreatM7
namespace Go.Proofs.YtmghipjpgoghlaaGreat
open Go.RowKit
set_option linter.unusedVariables false
set_option linter.unusedSimpArgs false

theorem stopG {p : Prop} (h : Hid p) : p := h

theorem own_setG {w : World} {B : Nat} {a : Option Addr} {l : List At} (h : OwnAts w B a l) {p : Addr} (hp : p.block < B) (u : Value) : OwnAts (w.setCell p u) B a l := fun hl => by
  obtain ⟨g, o, cu, e1, e2, e3, e4⟩ := h hl
  refine ⟨g, o, cu, e1, e2, ?_, e4⟩
  rw [Below.heap_setCell _ _ _ _ (by omega)]
  exact e3

theorem own_lift {w : World} {B B' : Nat} {a : Option Addr} {l : List At} (h : OwnAts w B' a l) (hB : B ≤ B') : OwnAts w B a l := fun hl => by
  obtain ⟨g, o, cu, e1, e2, e3⟩ := h hl
  exact ⟨g, o, cu, e1, Nat.le_trans hB e2, e3⟩

theorem box_set {w : World} {g : Nat} {cur : Array Value} {T : TypeId} (h : w.heap[g]? = some (.cells cur T (0, 0))) (j : Nat) (v : Value) : (w.setCell ⟨g, j, none⟩ v).heap[g]? = some (.cells (cur.setIfInBounds j v) T (0, 0)) := heap_setCell_same w g j cur T v h

theorem node_cells {w : World} {g : Nat} {t : Tk} {a1 : Option Addr} {c1 : Nat} (h : w.heap[g]? = some (.cells #[.int .i64 t.kind, .string t.name, .slice a1 t.attrs.length c1, .string t.text] 33 (0, 0))) :
    ∀ j u, (Nd.cs [⟨t, a1, c1⟩])[j]? = some u → w.cell? ((⟨g, 0, none⟩ : Addr).add j) = some u := by
  intro j u hj
  rw [add_plainW, Nat.zero_add, Lib.cell_of_heap h]
  rw [Nd.cs_one] at hj
  match j, hj with
  | 0, hj => exact hj
  | 1, hj => exact hj
  | 2, hj => exact hj
  | 3, hj => exact hj

/-- append of a node to a row of one's own, its attrs made since. -/
theorem wpL_node (W : World) {ops : Array Oper} {rest : List Oper} {o : Oper} {a : Act} {Q : Exit → Act → World → Prop} (hgd : o.guard = none) (s x : Operand)
    (ho : o.op = .call { callee := .builtin .append, args := #[s, x], argTypes := #[24, 24] }) (base : Nat) (v : Value) (es : List Nd.E) (hs : a.eval s = v) (wr : World) (hrow : Nd.Row wr base v es) (hb0 : base ≤ wr.heap.size) (hB : Below wr.heap.size wr W)
    (t : Tk) (a1 : Option Addr) (c1 g : Nat) (hx : a.eval x = .slice (some ⟨g, 0, none⟩) 1 1) (hg : W.heap[g]? = some (.cells #[.int .i64 t.kind, .string t.name, .slice a1 t.attrs.length c1, .string t.text] 33 (0, 0))) (hA : OwnAts W wr.heap.size a1 t.attrs) (hn : es.length ≤ 1048576)
    (h : ∀ a' c' w', Nd.Row w' base (.slice a' (es ++ [(⟨t, a1, c1⟩ : Nd.E)]).length c') (es ++ [⟨t, a1, c1⟩]) → Below base W w' → wpList Tryz.prog ops Q rest (a.put o.dst (.slice a' (es ++ [(⟨t, a1, c1⟩ : Nd.E)]).length c')) w') : wpList Tryz.prog ops Q (o :: rest) a W := by
  have hbW : base ≤ W.heap.size := Nat.le_trans hb0 hB.size
  refine Nd.wpL_join W hgd s x ho base v es [⟨t, a1, c1⟩] hs (hrow.below hB) g 1 1 hx rfl (node_cells hg) (fun e he => ?_) (List.pairwise_singleton _ _) (fun e he f hf => ?_) (by show es.length + 1 ≤ _; omega) hbW (fun a' c' w' h1 h2 _ => h a' c' w' h1 h2)
  · rw [List.mem_singleton] at he
    subst he
    refine ⟨own_lift hA hb0, fun g' o' hl e1 e2 => ?_⟩
    obtain ⟨g2, o2, cu, k1, k2, _⟩ := hA hl
    rw [k1] at e1
    cases e1
    have := (hrow.own.lt _ e2).2
    omega
  · rw [List.mem_singleton] at hf
    subst hf
    intro hl hl' g1 o1 g2 o2 e1 e2 e3
    obtain ⟨k, ko, cu, k1, k2, _⟩ := hA hl'
    obtain ⟨m, mo, cm, m1, m2, m3, _⟩ := (hrow.ats e he).1 hl
    rw [k1] at e2
    rw [m1] at e1
    cases e1
    cases e2
    have := lt_of_heap m3
    omega

/-- The row so far is this one. -/
structure RowOf (w wr : World) (v : Value) (L : List Tk) : Prop where
  row : ∃ es a c, v = .slice a es.length c ∧ Nd.Row wr w.heap.size (.slice a es.length c) es ∧ es.map (·.t) = L
  bel : Below w.heap.size w wr

theorem RowOf.open {w wr : World} {v : Value} {L : List Tk} (h : RowOf w wr v L) : ∃ es a c, v = .slice a es.length c ∧ Nd.Row wr w.heap.size (.slice a es.length c) es ∧ es.map (·.t) = L ∧ es.length = L.length := by
  obtain ⟨es, a, c, e1, e2, e3⟩ := h.row
  exact ⟨es, a, c, e1, e2, e3, by rw [← e3, List.length_map]⟩

theorem RowOf.tk {w wr : World} {v : Value} {L : List Tk} (h : RowOf w wr v L) : ∃ a c, v = .slice a L.length c ∧ TkRow wr a L := by
  obtain ⟨es, a, c, rfl, hr, hm, hl⟩ := h.open
  obtain ⟨a2, c2, e, ht⟩ := hr.tkRow
  cases e
  rw [hm] at ht
  exact ⟨a, c, by rw [hl], ht⟩

theorem RowOf.start {w wr : World} (hb : Below w.heap.size w wr) {g : Nat} (hg : w.heap.size ≤ g) (hh : wr.heap[g]? = some (.cells #[] 33 (0, 0))) : RowOf w wr (.slice (some ⟨g, 0, none⟩) 0 0) [] :=
  ⟨⟨[], _, _, rfl, Nd.Row.start _ _ _ hg hh, rfl⟩, hb⟩

theorem RowOf.below {w wr w' : World} {v : Value} {L : List Tk} (h : RowOf w wr v L) (hb : Below wr.heap.size wr w') : RowOf w w' v L := by
  obtain ⟨es, a, c, e1, e2, e3⟩ := h.row
  exact ⟨⟨es, a, c, e1, e2.below hb, e3⟩, bb h.bel hb⟩

theorem RowOf.more {w w' : World} {es : List Nd.E} {a : Option Addr} {c : Nat} {L : List Tk} {t : Tk} {a1 : Option Addr} {c1 : Nat} (hm : es.map (·.t) = L) (h : Nd.Row w' w.heap.size (.slice a (es ++ [(⟨t, a1, c1⟩ : Nd.E)]).length c) (es ++ [⟨t, a1, c1⟩])) (hb : Below w.heap.size w w') : RowOf w w' (.slice a (es ++ [(⟨t, a1, c1⟩ : Nd.E)]).length c) (L ++ [t]) :=
  ⟨⟨_, a, c, rfl, h, by rw [List.map_append, hm]; rfl⟩, hb⟩

/-- append of a node to such a row. -/
theorem wpL_row (w wr W : World) {ops : Array Oper} {rest : List Oper} {o : Oper} {a : Act} {Q : Exit → Act → World → Prop} (hgd : o.guard = none) (s x : Operand)
    (ho : o.op = .call { callee := .builtin .append, args := #[s, x], argTypes := #[24, 24] }) (v : Value) (L : List Tk) (hs : a.eval s = v) (hrow : RowOf w wr v L) (hB : Below wr.heap.size wr W)
    (t : Tk) (a1 : Option Addr) (c1 g nA : Nat) (hx : a.eval x = .slice (some ⟨g, 0, none⟩) 1 1) (hnA : t.attrs.length = nA) (hg : W.heap[g]? = some (.cells #[.int .i64 t.kind, .string t.name, .slice a1 nA c1, .string t.text] 33 (0, 0))) (hA : OwnAts W wr.heap.size a1 t.attrs) (hn : L.length ≤ 1048576)
    (h : ∀ v' w', RowOf w w' v' (L ++ [t]) → wpList Tryz.prog ops Q rest (a.put o.dst v') w') : wpList Tryz.prog ops Q (o :: rest) a W := by
  obtain ⟨es, a8, c8, rfl, hr, hm, hl⟩ := hrow.open
  subst hnA
  refine wpL_node W hgd s x ho w.heap.size _ es hs wr hr hrow.bel.size hB t a1 c1 g hx hg hA (by omega) (fun a' c' w' h1 h2 => h _ w' (RowOf.more hm h1 ((hrow.bel.trans (hB.mono hrow.bel.size)).trans h2)))

set_option maxRecDepth 4000 in
set_option maxHeartbeats 4000000 in
theorem cCopyT (a : Option Addr) (cap : Nat) (ts : List Tk) (w : World) (hR : TkRow w a ts) (hn : ts.length ≤ 1048576) (hz : TksSz 1048576 ts) :
    Calls Tryz.prog 53 #[.slice a ts.length cap] w fun e w' => ∃ v, e = .returned v ∧ RowOf w w' v ts := by
  have HR := hid hR
  have HZ := hid hz
  have HB0 := hid ((Below.refl w.heap.size w).alloc (Nat.le_refl _) (.cells #[] 33))
  have M0 := hid (heap_alloc_new w (.cells #[] 33))
  clear hR hz
  obtain ⟨n, hnn⟩ : ∃ n, ts.length = n := ⟨_, rfl⟩
  have HN := hid hnn
  rw [hnn] at hn ⊢
  clear hnn
  go_enter Tryz.func53, Tryz.ntmps53
  go_wp2_with fail
  go_loopw [3, 4] (fun v k wr => ∃ i : Nat, k = .int .i64 (i : Int) ∧ i ≤ n ∧ Hid (RowOf w wr v (ts.take i))) (fun _ k _ => n - (intOf k).toNat)
  case atStart => exact ⟨0, rfl, Nat.zero_le _, by rw [List.take_zero]; exact RowOf.start HB0.out (Nat.le_refl _) M0.out⟩
  case round =>
    clear HB0 M0
    obtain ⟨i, rfl, hi, HX⟩ := hrel
    by_cases hlt : i < n
    · have his : i < ts.length := by rw [HN.out]; exact hlt
      have hin : (i : Int) < (n : Int) := by omega
      have HTS := hid (take_snocN his)
      have HLT := hid (show (ts.take i).length ≤ 1048576 by rw [List.length_take]; omega)
      have HZT := hid (HZ.out _ (List.getElem_mem his))
      obtain ⟨b, o, aa, ca, e', hb, q0, q1, q2, q3, hA⟩ := (HR.out.below HX.out.bel) i his
      subst e'
      have HAT := hid hA
      obtain ⟨t, ht⟩ : ∃ t, ts[i] = t := ⟨_, rfl⟩
      rw [ht] at q0 q1 q2 q3 HAT HZT HTS
      clear ht hA
      obtain ⟨nA, hnA⟩ : ∃ nA, t.attrs.length = nA := ⟨_, rfl⟩
      have HNA := hid hnA
      rw [hnA] at q2
      clear hnA
      have HL1 := hid ((Below.refl wr.heap.size wr).alloc (Nat.le_refl _) (.cells #[.int .i64 t.kind, .string t.name, .slice aa nA ca, .string t.text] 33))
      have M1 := hid (heap_alloc_new wr (.cells #[.int .i64 t.kind, .string t.name, .slice aa nA ca, .string t.text] 33))
      have CC := hid (fun wx (h : AtRow wx aa t.attrs) => cCopyS aa ca t.attrs wx h HZT.out.2.1)
      rw [HNA.out] at CC
      go_wp2_with fail
      refine (CC.out _ (HAT.out.below HL1.out)).mono ?_
      rintro e w2 ⟨a1, c1, rfl, ha1, hb2⟩
      have HA1 := hid (show OwnAts w2 (wr.heap.size + 1) a1 t.attrs by simpa using ha1)
      have HL2 := hid (bb HL1.out hb2)
      have M2 := hid (blk_below M1.out hb2)
      obtain ⟨⟨x0, x1, x2, x3⟩, f0, f1, f2, f3⟩ := box4 M2.out
      clear ha1 hb2 CC HL1 M1 q0 q1 q2 q3 hb
      have HS3 := hid (HL2.out.setCell (p := ⟨wr.heap.size, 2, none⟩) (Nat.le_refl _) (.slice a1 nA c1))
      have HA3 := hid (own_lift (own_setG HA1.out (p := ⟨wr.heap.size, 2, none⟩) (Nat.lt_succ_self _) (.slice a1 nA c1)) (Nat.le_succ _))
      have M3 := hid (box_set M2.out 2 (.slice a1 nA c1))
      obtain ⟨w3, hw3⟩ : ∃ w3, w2.setCell ⟨wr.heap.size, 2, none⟩ (.slice a1 nA c1) = w3 := ⟨_, rfl⟩
      rw [hw3] at HS3 HA3 M3
      obtain ⟨⟨y0, y1, y2, y3⟩, _⟩ := box4 M3.out
      have HM4 := hid (heap_alloc_new w3 (.cells #[.int .i64 t.kind, .string t.name, .slice a1 nA c1, .string t.text] 33))
      have HB4 := hid (HS3.out.alloc HS3.out.size (.cells #[.int .i64 t.kind, .string t.name, .slice a1 nA c1, .string t.text] 33))
      have HA4 := hid (HA3.out.below ((Below.refl _ _).alloc (Nat.le_refl _) (.cells #[.int .i64 t.kind, .string t.name, .slice a1 nA c1, .string t.text] 33)))
      go_wp2_with (at_builtin; refine wpL_row w wr _ rfl _ _ rfl _ (ts.take i) rfl HX.out HB4.out t a1 c1 w3.heap.size nA rfl HNA.out HM4.out HA4.out HLT.out ?_)
      intro v5 w5 hr5
      have HR5 := hid hr5
      rw [← HTS.out] at HR5
      clear hr5 x0 x1 x2 x3 y0 y1 y2 y3 hw3
      go_wp2_with fail
      go_roundw
      case rel => exact ⟨i + 1, by go_num, by omega, HR5.out⟩
      case measure => simp [intOf]; omega
    · have hie : i = n := by omega
      subst hie
      have HY := hid (show RowOf w wr u3 ts by
        have h := HX.out
        rw [List.take_of_length_le (by rw [HN.out]; exact Nat.le_refl _)] at h
        exact h)
      clear HX
      go_wp2_with fail
      go_ret
      exact ⟨_, rfl, HY.out⟩

end Go.Proofs.YtmghipjpgoghlaaGreat

namespace Go.Proofs.YtmghipjpgoghlaaGreat
open Go.RowKit
set_option linter.unusedVariables false
set_option linter.unusedSimpArgs false

/-- A cell holds a text of at most so many signs, and may be written. -/
def StrC (w : World) (m : Nat) (p : Addr) : Prop := ∃ s : ByteArray, w.cell? p = some (.string s) ∧ s.size ≤ m ∧ w.frozen? p = false

/-- A row of attrs of such texts. -/
def StrR (B : Nat) (w : World) (m : Nat) (a : Option Addr) (n : Nat) : Prop := ∀ j, j < n → ∃ b o, a = some ⟨b, o, none⟩ ∧ (B ≤ b ∧ b < w.heap.size) ∧ StrC w m ⟨b, o + j * 2, none⟩ ∧ StrC w m ⟨b, o + j * 2 + 1, none⟩

/-- A row of nodes of such attrs. -/
def ShapeR (B : Nat) (w : World) (m : Nat) (a : Option Addr) (n : Nat) : Prop := ∀ j, j < n → ∃ b o k aa nA ca, a = some ⟨b, o, none⟩ ∧ b < w.heap.size ∧ w.cell? ⟨b, o + j * 4, none⟩ = some (.int .i64 k) ∧ StrC w m ⟨b, o + j * 4 + 1, none⟩ ∧ w.cell? ⟨b, o + j * 4 + 2, none⟩ = some (.slice aa nA ca) ∧ nA ≤ m ∧ StrC w m ⟨b, o + j * 4 + 3, none⟩ ∧ StrR B w m aa nA

/-- What one write of a text over a text leaves. -/
structure Wrote (m : Nat) (w w' : World) : Prop where
  size : w'.heap.size = w.heap.size
  str : ∀ p, StrC w m p → StrC w' m p
  oth : ∀ p v, w.cell? p = some v → (∀ s, ¬ v = .string s) → w'.cell? p = some v

theorem Wrote.refl (m : Nat) (w : World) : Wrote m w w := ⟨rfl, fun _ h => h, fun _ _ h _ => h⟩

theorem Wrote.trans {m : Nat} {a b c : World} (h : Wrote m a b) (k : Wrote m b c) : Wrote m a c := ⟨k.size.trans h.size, fun p q => k.str p (h.str p q), fun p v q n => k.oth p v (h.oth p v q n) n⟩

theorem Wrote.drew {m : Nat} {a b : World} (h : Wrote m a b) : Wrote m a b.drew := ⟨h.size, h.str, h.oth⟩

theorem wrote_set {m : Nat} {w : World} {b i : Nat} {s : ByteArray} (h : StrC w m ⟨b, i, none⟩) (hs : s.size ≤ m) : Wrote m w (w.setCell ⟨b, i, none⟩ (.string s)) := by
  obtain ⟨s0, h1, h2, h3⟩ := h
  refine ⟨by simp [World.setCell], fun p hp => ?_, fun p v hv hn => ?_⟩
  · obtain ⟨u, u1, u2, u3⟩ := hp
    by_cases e : (⟨b, i, none⟩ : Addr) = p
    · subst e
      exact ⟨s, World.cell?_setCell_same _ _ _ h1, hs, by rw [World.frozen?_setCell]; exact u3⟩
    · exact ⟨u, by rw [World.cell?_setCell_other _ _ _ _ e]; exact u1, u2, by rw [World.frozen?_setCell]; exact u3⟩
  · by_cases e : (⟨b, i, none⟩ : Addr) = p
    · subst e
      rw [h1] at hv
      injection hv with hv
      exact absurd hv.symm (hn s0)
    · rw [World.cell?_setCell_other _ _ _ _ e]; exact hv

theorem StrC.below {w w' : World} {m : Nat} {b i : Nat} (h : StrC w m ⟨b, i, none⟩) (hb : Below w.heap.size w w') (hl : b < w.heap.size) : StrC w' m ⟨b, i, none⟩ := by
  obtain ⟨s, h1, h2, h3⟩ := h
  exact ⟨s, (hb.cell (p := ⟨b, i, none⟩) hl).trans h1, h2, ((bcell hb).2 b i hl).trans h3⟩

theorem StrR.below {B : Nat} {w w' : World} {m n : Nat} {a : Option Addr} (h : StrR B w m a n) (hb : Below w.heap.size w w') : StrR B w' m a n := fun j hj => by
  obtain ⟨b, o, e, hl, h1, h2⟩ := h j hj
  exact ⟨b, o, e, ⟨hl.1, Nat.lt_of_lt_of_le hl.2 hb.size⟩, h1.below hb hl.2, h2.below hb hl.2⟩

theorem ShapeR.below {B : Nat} {w w' : World} {m n : Nat} {a : Option Addr} (h : ShapeR B w m a n) (hb : Below w.heap.size w w') : ShapeR B w' m a n := fun j hj => by
  obtain ⟨b, o, k, aa, nA, ca, e, hl, h0, h1, h2, h3, h4, h5⟩ := h j hj
  exact ⟨b, o, k, aa, nA, ca, e, Nat.lt_of_lt_of_le hl hb.size, (hb.cell (p := ⟨b, o + j * 4, none⟩) hl).trans h0, h1.below hb hl, (hb.cell (p := ⟨b, o + j * 4 + 2, none⟩) hl).trans h2, h3, h4.below hb hl, h5.below hb⟩

theorem StrR.wrote {B : Nat} {w w' : World} {m n : Nat} {a : Option Addr} (h : StrR B w m a n) (k : Wrote m w w') : StrR B w' m a n := fun j hj => by
  obtain ⟨b, o, e, hl, h1, h2⟩ := h j hj
  exact ⟨b, o, e, ⟨hl.1, by rw [k.size]; exact hl.2⟩, k.str _ h1, k.str _ h2⟩

theorem ShapeR.wrote {B : Nat} {w w' : World} {m n : Nat} {a : Option Addr} (h : ShapeR B w m a n) (q : Wrote m w w') : ShapeR B w' m a n := fun j hj => by
  obtain ⟨b, o, k, aa, nA, ca, e, hl, h0, h1, h2, h3, h4, h5⟩ := h j hj
  exact ⟨b, o, k, aa, nA, ca, e, by rw [q.size]; exact hl, q.oth _ _ h0 (fun s e => by cases e), q.str _ h1, q.oth _ _ h2 (fun s e => by cases e), h3, q.str _ h4, h5.wrote q⟩

theorem StrR.row {B : Nat} {w : World} {m : Nat} {a : Option Addr} : ∀ {n : Nat}, StrR B w m a n → ∃ l : List At, l.length = n ∧ AtRow w a l ∧ AtSz m l
  | 0, _ => ⟨[], rfl, fun j hj => absurd hj (Nat.not_lt_zero _), fun x hx => absurd hx List.not_mem_nil⟩
  | n + 1, h => by
    obtain ⟨l, h1, h2, h3⟩ := StrR.row (n := n) (fun j hj => h j (by omega))
    obtain ⟨b, o, e, hl, ⟨s, s1, s2, _⟩, ⟨t, t1, t2, _⟩⟩ := h n (by omega)
    refine ⟨l ++ [⟨s, t⟩], by simp [h1], fun j hj => ?_, fun x hx => ?_⟩
    · by_cases hjl : j < l.length
      · obtain ⟨b', o', e', hl', c1, c2⟩ := h2 j hjl
        exact ⟨b', o', e', hl', by rw [List.getElem_append_left hjl]; exact c1, by rw [List.getElem_append_left hjl]; exact c2⟩
      · have hj' : j = n := by rw [List.length_append] at hj; have : [(⟨s, t⟩ : At)].length = 1 := rfl; omega
        have e0 : (l ++ [(⟨s, t⟩ : At)])[j] = ⟨s, t⟩ := by
          rw [List.getElem_append_right (by omega)]
          simp
        rw [e0]
        subst hj'
        exact ⟨b, o, e, hl.2, s1, t1⟩
    · rcases List.mem_append.1 hx with q | q
      · exact h3 x q
      · rw [List.mem_singleton.1 q]; exact ⟨s2, t2⟩

theorem ShapeR.row {B : Nat} {w : World} {m : Nat} {a : Option Addr} : ∀ {n : Nat}, ShapeR B w m a n → ∃ ts : List Tk, ts.length = n ∧ TkRow w a ts ∧ TksSz m ts
  | 0, _ => ⟨[], rfl, fun j hj => absurd hj (Nat.not_lt_zero _), fun x hx => absurd hx List.not_mem_nil⟩
  | n + 1, h => by
    obtain ⟨l, h1, h2, h3⟩ := ShapeR.row (n := n) (fun j hj => h j (by omega))
    obtain ⟨b, o, k, aa, nA, ca, e, hl, c0, ⟨s, s1, s2, _⟩, c2, hnA, ⟨t, t1, t2, _⟩, hr⟩ := h n (by omega)
    obtain ⟨at0, r1, r2, r3⟩ := hr.row
    refine ⟨l ++ [⟨k, s, at0, t⟩], by simp [h1], fun j hj => ?_, fun x hx => ?_⟩
    · by_cases hjl : j < l.length
      · have := h2 j hjl
        rw [List.getElem_append_left hjl]
        exact this
      · have hj' : j = n := by rw [List.length_append] at hj; have : [(⟨k, s, at0, t⟩ : Tk)].length = 1 := rfl; omega
        have e0 : (l ++ [(⟨k, s, at0, t⟩ : Tk)])[j] = ⟨k, s, at0, t⟩ := by
          rw [List.getElem_append_right (by omega)]
          simp
        rw [e0]
        subst hj'
        exact ⟨b, o, aa, ca, e, hl, c0, s1, by rw [r1]; exact c2, t1, r2⟩
    · rcases List.mem_append.1 hx with q | q
      · exact h3 x q
      · rw [List.mem_singleton.1 q]
        exact ⟨s2, by show at0.length ≤ m; omega, r3, t2⟩

theorem RowOf.shape {w wr : World} {v : Value} {L : List Tk} (h : RowOf w wr v L) {m : Nat} (hz : TksSz m L) : ∃ a c, v = .slice a L.length c ∧ ShapeR w.heap.size wr m a L.length := by
  obtain ⟨es, a, c, rfl, hr, hm, hl⟩ := h.open
  refine ⟨a, c, by rw [hl], fun j hj => ?_⟩
  have hje : j < es.length := by omega
  rcases hr.own.2 with ⟨_, h0⟩ | ⟨g, cap, cur, hv, hB, hg, hn, hc, hs, ht⟩
  · omega
  · injection hv with e1 e2 e3
    subst e1 e3
    obtain ⟨⟨k0, k1, k2, k3⟩, _⟩ := slot_own (show wr.ownsRow w.heap.size 33 4 (.slice (some ⟨g, 0, none⟩) es.length c) es.length (Nd.cs es) from hr.own) rfl hje
    have ez : TkSz m es[j].t := hz _ (by rw [← hm]; exact List.mem_map.2 ⟨_, List.getElem_mem hje, rfl⟩)
    have fz := fun i => Lib.frozen_of_heap hg i
    refine ⟨g, 0, es[j].t.kind, es[j].a, es[j].t.attrs.length, es[j].cap, rfl, lt_of_heap hg, by rw [Nat.zero_add]; exact k0, ⟨_, by rw [Nat.zero_add]; exact k1, ez.1, fz _⟩, by rw [Nat.zero_add]; exact k2, ez.2.1, ⟨_, by rw [Nat.zero_add]; exact k3, ez.2.2.2, fz _⟩, fun i hi => ?_⟩
    obtain ⟨g', o', cu, e', hB', hh, hcs⟩ := (hr.ats _ (List.getElem_mem hje)).1 (by omega)
    have fz' := fun i => Lib.frozen_of_heap hh i
    have zz := ez.2.2.1 _ (List.getElem_mem hi)
    exact ⟨g', o', e', ⟨hB', lt_of_heap hh⟩, ⟨_, by rw [Lib.cell_of_heap hh]; exact (hcs i hi).1, zz.1, fz' _⟩, ⟨_, by rw [Lib.cell_of_heap hh]; exact (hcs i hi).2, zz.2, fz' _⟩⟩

end Go.Proofs.YtmghipjpgoghlaaGreat

namespace Go.Proofs.YtmghipjpgoghlaaGreat
set_option linter.unusedVariables false

/-- Every sign is one of these, and there are at most so many. -/
def ofB (signs : ByteArray) (most : Nat) (s : ByteArray) : Bool := s.data.toList.all (fun c => signs.data.toList.any fun d => decide (d = c)) && decide (s.size ≤ most)

def nsS : ByteArray := ⟨#[110, 115]⟩
def sgnS : ByteArray := ⟨#[97, 98, 99, 100, 101, 102, 103, 104, 105, 106, 107, 108, 109, 110, 111, 112, 113, 114, 115, 116, 117, 118, 119, 120, 121, 122, 48, 49, 50, 51, 52, 53, 54, 55, 56, 57, 47, 46]⟩

def preS (s : ByteArray) : ByteArray := ⟨(partP s.data.toList).toArray⟩
def locS (s : ByteArray) : ByteArray := ⟨(partL s.data.toList).toArray⟩

/-- The prefix that an attr declares. -/
noncomputable def declF (x : At) : Option ByteArray := open Classical in if x.name = nsS then some ⟨#[]⟩ else if preS x.name = nsS then some (locS x.name) else none

noncomputable def rightB (x : At) : Bool := match declF x with
  | none => true
  | some p => ofB sgnS 20 x.value && (decide (p.size = 0) || !decide (x.value.size = 0))

/-- It declares this one. -/
noncomputable def declB (p : ByteArray) (x : At) : Bool := open Classical in decide (declF x = some p)

/-- All attrs from an element on, outwards. -/
def upAts (ts : List Tk) (c : List Nat) : List At := c.flatMap fun j => match ts[j]? with | some t => t.attrs | none => []

/-- What a prefix means by these. -/
noncomputable def meanL (l : List At) (p : ByteArray) : Option ByteArray :=
  if l.all rightB then (match l.find? (declB p) with | some x => some x.value | none => if p.size = 0 then some ⟨#[]⟩ else none) else none

noncomputable def meanF (ts : List Tk) (k : Nat) (p : ByteArray) : Option ByteArray := meanL (upAts ts (chainF ts (k + 1))) p

/-- What the search holds behind these attrs. -/
structure Held (l : List At) (p : ByteArray) (m : ByteArray) (found set : Bool) : Prop where
  right : l.all rightB = true
  isSet : set = (l.find? (declB p)).isSome
  isM : m = ((l.find? (declB p)).map (·.value)).getD ⟨#[]⟩
  isF : found = (decide (p.size = 0) || set)

theorem Held.start (p : ByteArray) : Held [] p ⟨#[]⟩ (decide (p.size = 0)) false := ⟨rfl, rfl, rfl, by rw [Bool.or_false]⟩

theorem Held.next {l : List At} {p m : ByteArray} {found set : Bool} (h : Held l p m found set) {x : At} (hr : rightB x = true) (hx : (declB p x && !set) = false) : Held (l ++ [x]) p m found set := by
  have e : (l ++ [x]).find? (declB p) = l.find? (declB p) := by
    rw [List.find?_append]
    cases hf : l.find? (declB p) with
    | some y => rfl
    | none =>
      have hs : set = false := by rw [h.isSet, hf]; rfl
      rw [hs] at hx
      simp at hx
      simp [hx]
  exact ⟨by rw [List.all_append, h.right]; simp [hr], by rw [e]; exact h.isSet, by rw [e]; exact h.isM, h.isF⟩

theorem Held.hit {l : List At} {p m : ByteArray} {found : Bool} (h : Held l p m found false) {x : At} (hr : rightB x = true) (hx : declB p x = true) : Held (l ++ [x]) p x.value true true := by
  have hn : l.find? (declB p) = none := by
    cases hf : l.find? (declB p) with
    | some y => have := h.isSet; rw [hf] at this; cases this
    | none => rfl
  have e : (l ++ [x]).find? (declB p) = some x := by
    rw [List.find?_append, hn]
    simp [hx]
  exact ⟨by rw [List.all_append, h.right]; simp [hr], by rw [e]; rfl, by rw [e]; rfl, by rw [Bool.or_true]⟩

theorem Held.fin {l : List At} {p m : ByteArray} {found set : Bool} (h : Held l p m found set) : (meanL l p).getD ⟨#[]⟩ = m ∧ (meanL l p).isSome = found := by
  unfold meanL
  rw [if_pos h.right, h.isM, h.isF, h.isSet]
  cases hf : l.find? (declB p) with
  | some y => simp
  | none =>
    by_cases hp : p.size = 0
    · simp [hp]
    · simp [hp]

theorem mean_wrong {l : List At} {x : At} (hx : x ∈ l) (h : rightB x = false) (p : ByteArray) : meanL l p = none := by
  unfold meanL
  rw [if_neg]
  intro ha
  have := List.all_eq_true.1 ha x hx
  rw [h] at this
  cases this

/-- The attrs from one on are his and those further out. -/
theorem upAts_at {ts : List Tk} {c : List Nat} {m : Nat} (hm : m < c.length) (hc : c[m] < ts.length) : upAts ts (c.take (m + 1)) = upAts ts (c.take m) ++ ts[c[m]].attrs := by
  unfold upAts
  rw [List.take_succ_eq_append_getElem hm, List.flatMap_append]
  simp [List.getElem?_eq_getElem hc]

theorem upAts_mem {ts : List Tk} {c : List Nat} {m : Nat} (hm : m < c.length) (hc : c[m] < ts.length) {x : At} (hx : x ∈ ts[c[m]].attrs) : x ∈ upAts ts c := by
  unfold upAts
  exact List.mem_flatMap.2 ⟨c[m], List.getElem_mem hm, by rw [List.getElem?_eq_getElem hc]; exact hx⟩

end Go.Proofs.YtmghipjpgoghlaaGreat
