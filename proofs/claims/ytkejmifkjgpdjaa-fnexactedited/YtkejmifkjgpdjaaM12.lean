/- A node of a row of one's own is changed in its place. Contracts of the specification's l10Put, Grafted. Rows joined: a row of others' nodes made one's own, two rows of one's own made one. -/
import Derived.Test.YtkejmifkjgpdjaaM11
import Derived.Test.YtkejmifkjgpdjaaM9
import Derived.Laws.OwnMore
namespace Go.Proofs.Ytkejmifkjgpdjaa
open Go.RowKit
set_option linter.unusedVariables false
set_option linter.unusedSimpArgs false

theorem cs_put {es : List Nd.E} : ∀ {x : Nat} (hx : x < es.length) {f : Nat} (hf : f < 4) {u : Value} {e' : Nd.E}, Nd.c1 e' = (Nd.c1 es[x]).set f u → (Nd.cs es).set (x * 4 + f) u = Nd.cs (es.set x e') := by
  induction es with
  | nil => intro x hx; simp at hx
  | cons y es ih =>
    intro x hx f hf u e' he
    have e1 : Nd.cs (y :: es) = Nd.c1 y ++ Nd.cs es := rfl
    have hl : (Nd.c1 y).length = 4 := rfl
    match x with
    | 0 =>
      simp only [List.getElem_cons_zero] at he
      have e2 : Nd.cs ((y :: es).set 0 e') = Nd.c1 e' ++ Nd.cs es := rfl
      rw [e1, e2, he, Nat.zero_mul, Nat.zero_add, List.set_append, if_pos (by rw [hl]; exact hf)]
    | x + 1 =>
      have e2 : Nd.cs ((y :: es).set (x + 1) e') = Nd.c1 y ++ Nd.cs (es.set x e') := rfl
      rw [e1, e2, List.set_append, if_neg (by rw [hl]; omega), hl, show (x + 1) * 4 + f - 4 = x * 4 + f by omega, ih (by simpa using hx) hf (by simpa using he)]

theorem Row.put {w : World} {B g n c : Nat} {es : List Nd.E} (h : Nd.Row w B (.slice (some ⟨g, 0, none⟩) n c) es) {x : Nat} (hx : x < es.length) {f : Nat} (hf : f < 4) {u : Value} {e' : Nd.E} (he : Nd.c1 e' = (Nd.c1 es[x]).set f u) (h1 : e'.a = es[x].a) (h2 : e'.t.attrs = es[x].t.attrs) :
    Nd.Row (w.setCell ⟨g, x * 4 + f, none⟩ u) B (.slice (some ⟨g, 0, none⟩) n c) (es.set x e') := by
  have hn : n = es.length := by
    rcases h.own.2 with ⟨e, h0⟩ | ⟨g', cap', cur, e, _⟩
    · cases e
    · cases e; rfl
  subst hn
  have hs := World.ownsRow.stored h.own (x * 4 + f) u
  have key : ∀ e : Nd.E, (OwnAts w B e.a e.t.attrs ∧ ∀ g' o, 0 < e.t.attrs.length → e.a = some ⟨g', o, none⟩ → ¬ (Value.slice (some ⟨g, 0, none⟩) es.length c).ownBlock = some g') → OwnAts (w.setCell ⟨g, x * 4 + f, none⟩ u) B e.a e.t.attrs := by
    rintro e ⟨k1, k2⟩ hl
    obtain ⟨g1, o1, cu, a1, a2, a3, a4⟩ := k1 hl
    refine ⟨g1, o1, cu, a1, a2, ?_, a4⟩
    have hne := k2 g1 o1 hl a1
    exact (hs.2.block g1 (lt_of_heap a3) (fun e => hne (by simpa [Value.ownBlock] using e.symm))).trans a3
  refine ⟨?_, fun e hm => ?_, ?_⟩
  · rw [List.length_set, ← cs_put hx hf he]
    exact hs.1
  · rcases List.mem_or_eq_of_mem_set hm with h' | h'
    · exact ⟨key e (h.ats e h'), (h.ats e h').2⟩
    · subst h'
      have k := h.ats es[x] (List.getElem_mem hx)
      have k' : OwnAts w B e.a e.t.attrs ∧ ∀ g' o, 0 < e.t.attrs.length → e.a = some ⟨g', o, none⟩ → ¬ (Value.slice (some ⟨g, 0, none⟩) es.length c).ownBlock = some g' := by rw [h1, h2]; exact k
      exact ⟨key _ k', k'.2⟩
  · rw [List.pairwise_iff_getElem]
    intro i j hi hj hij
    rw [List.length_set] at hi hj
    have hp := List.pairwise_iff_getElem.1 h.apart i j hi hj hij
    have ei : ∀ (k : Nat) (hk : k < es.length), ((es.set x e')[k]'(by rw [List.length_set]; exact hk)).a = es[k].a ∧ ((es.set x e')[k]'(by rw [List.length_set]; exact hk)).t.attrs = es[k].t.attrs := by
      intro k hk
      rw [List.getElem_set]
      split
      · rename_i hxk
        subst hxk
        exact ⟨h1, h2⟩
      · exact ⟨rfl, rfl⟩
    unfold Nd.Apart at hp ⊢
    rw [(ei i hi).1, (ei i hi).2, (ei j hj).1, (ei j hj).2]
    exact hp

/-- The row with a node changed, as trees. -/
theorem RowOf.put {w wr : World} {v : Value} {L : List Tk} (h : RowOf w wr v L) {x : Nat} {t : Tk} (hx : L[x]? = some t) : ∃ g c, v = .slice (some ⟨g, 0, none⟩) L.length c ∧ w.heap.size ≤ g ∧
    (∃ aa ca, wr.cell? ⟨g, x * 4, none⟩ = some (.int .i64 t.kind) ∧ wr.cell? ⟨g, x * 4 + 1, none⟩ = some (.string t.name) ∧ wr.cell? ⟨g, x * 4 + 2, none⟩ = some (.slice aa t.attrs.length ca) ∧ wr.cell? ⟨g, x * 4 + 3, none⟩ = some (.string t.text)) ∧ (∀ j, wr.frozen? ⟨g, j, none⟩ = false) ∧
    (∀ k, RowOf w (wr.setCell ⟨g, x * 4, none⟩ (.int .i64 k)) v (L.set x (shK k t))) ∧ ∀ s, RowOf w (wr.setCell ⟨g, x * 4 + 3, none⟩ (.string s)) v (L.set x ⟨t.kind, t.name, t.attrs, s⟩) := by
  obtain ⟨es, a, c, rfl, hr, hm, hl⟩ := h.open
  have hxl : x < es.length := by
    rcases Nat.lt_or_ge x es.length with h' | h'
    · exact h'
    · rw [List.getElem?_eq_none (by omega)] at hx; cases hx
  have hxt : es[x].t = t := by
    have : (es.map (·.t))[x]? = some t := by rw [hm]; exact hx
    rw [List.getElem?_map, List.getElem?_eq_getElem hxl] at this
    exact Option.some.inj this
  rcases hr.own.2 with ⟨e, h0⟩ | ⟨g, cap, cur, e, hg, hh, _⟩
  · omega
  · cases e
    obtain ⟨k0, k1, k2, k3⟩ := Nd.cs_get es x hxl
    have hc : ∀ j, j < es.length * 4 → wr.cell? ⟨g, j, none⟩ = (Nd.cs es)[j]? := fun j hj => World.ownsRow.cellAt hr.own j hj
    refine ⟨g, c, by rw [hl], hg, ⟨es[x].a, es[x].cap, ?_, ?_, ?_, ?_⟩, fun j => World.ownsRow.frozenAt hr.own j, fun k => ?_, fun s => ?_⟩
    · rw [hc _ (by omega), k0, hxt]
    · rw [hc _ (by omega), k1, hxt]
    · rw [hc _ (by omega), k2, hxt]
    · rw [hc _ (by omega), k3, hxt]
    · have hp := Row.put hr hxl (f := 0) (by decide) (u := .int .i64 k) (e' := ⟨shK k t, es[x].a, es[x].cap⟩) (by unfold Nd.c1; rw [hxt]; rfl) rfl (by rw [hxt]; rfl)
      refine ⟨⟨es.set x ⟨shK k t, es[x].a, es[x].cap⟩, _, c, by rw [List.length_set], by rw [List.length_set]; exact hp, by rw [List.map_set, hm]⟩, h.bel.setCell (p := ⟨g, x * 4, none⟩) hg _⟩
    · have hp := Row.put hr hxl (f := 3) (by decide) (u := .string s) (e' := ⟨⟨t.kind, t.name, t.attrs, s⟩, es[x].a, es[x].cap⟩) (by unfold Nd.c1; rw [hxt]; rfl) rfl (by rw [hxt])
      refine ⟨⟨es.set x ⟨⟨t.kind, t.name, t.attrs, s⟩, es[x].a, es[x].cap⟩, _, c, by rw [List.length_set], by rw [List.length_set]; exact hp, by rw [List.map_set, hm]⟩, h.bel.setCell (p := ⟨g, x * 4 + 3, none⟩) hg _⟩

end Go.Proofs.Ytkejmifkjgpdjaa

namespace Go.Proofs.Ytkejmifkjgpdjaa
open Go.RowKit
set_option linter.unusedVariables false
set_option linter.unusedSimpArgs false

theorem tk_take {w : World} {a : Option Addr} {ts : List Tk} (h : TkRow w a ts) (m : Nat) : TkRow w a (ts.take m) := by
  intro j hj
  rw [List.length_take] at hj
  obtain ⟨b, o, aa, ca, e, hb, q⟩ := h j (by omega)
  rw [List.getElem_take]
  exact ⟨b, o, aa, ca, e, hb, q⟩

theorem sz_take {ts : List Tk} {b : Nat} (h : TksSz b ts) (m : Nat) : TksSz b (ts.take m) := fun t ht => h t (List.mem_of_mem_take ht)

/-- Parents that are small. -/
def KindB (ts : List Tk) : Prop := ∀ t ∈ ts, -1 ≤ t.kind ∧ t.kind < 50

theorem tree_kindB {ts : List Tk} (hT : TreeP ts) : KindB ts := fun t ht => by
  obtain ⟨i, hi, rfl⟩ := List.getElem_of_mem ht
  exact tree_kind hT (List.getElem?_eq_getElem hi)

set_option maxRecDepth 4000 in
set_option maxHeartbeats 8000000 in
theorem cPutL (a a2 : Option Addr) (cap cap2 : Nat) (ts br : List Tk) (e0 : Nat) (par : Int) (w : World) (hR : TkRow w a ts) (hR2 : TkRow w a2 br) (hK : KindB ts) (hK2 : KindB br) (he : e0 ≤ ts.length) (hc : ts.length ≤ cap) (hcm : cap ≤ maxLen) (hn : ts.length ≤ 50) (hn2 : br.length ≤ 50) (hz : TksSz 1048576 ts) (hz2 : TksSz 1048576 br) :
    Calls Try.prog 64 #[.slice a ts.length cap, .int .i64 (e0 : Int), .int .i64 par, .slice a2 br.length cap2] w fun e' w' => ∃ v, e' = .returned v ∧ RowOf w w' v (putL ts e0 par br) := by
  have HR := hid hR
  have HZ := hid hz
  have HR2 := hid hR2
  have HZ2 := hid hz2
  have HK := hid hK
  have HK2 := hid hK2
  unfold maxLen at hcm
  have CT := hid (cCopyT a cap (ts.take e0) w (tk_take hR e0) (by rw [List.length_take]; omega) (sz_take hz e0))
  have hte : (ts.take e0).length = e0 := by rw [List.length_take]; omega
  rw [hte] at CT
  have HPT := hid (show putL ts e0 par br = (ts.take e0 ++ segN (fun i t => if i = 0 then par else t.kind + (e0 : Int)) br 0 br.length) ++ segN (fun _ t => if (e0 : Int) ≤ t.kind then t.kind + (br.length : Int) else t.kind) ts e0 (ts.length - e0) by unfold putL; rw [segN_same e0 he])
  rw [HPT.out]
  obtain ⟨n2, hnn2⟩ : ∃ n2, br.length = n2 := ⟨_, rfl⟩
  have HN2 := hid hnn2
  obtain ⟨n, hnn⟩ : ∃ n, ts.length = n := ⟨_, rfl⟩
  have HN := hid hnn
  rw [hnn2] at hn2 ⊢
  rw [hnn] at hn he hc ⊢
  obtain ⟨L0, hL0⟩ : ∃ L0, ts.take e0 ++ segN (fun i t => if i = 0 then par else t.kind + (e0 : Int)) br 0 n2 = L0 := ⟨_, rfl⟩
  have HL0 := hid (show L0.length ≤ 100 by rw [← hL0, List.length_append, List.length_take, segN_len n2 (by rw [hnn2]; omega)]; omega)
  have HE0 := hid hL0
  rw [hL0]
  clear hL0
  clear hR hz hR2 hz2 hK hK2 hte HPT hnn hnn2
  have hec : (e0 : Int) ≤ (cap : Int) := by omega
  go_enter Try.func64, Try.ntmps64
  go_wp2_with fail
  refine CT.out.mono ?_
  rintro e1 w1 ⟨v1, rfl, hr1⟩
  have HX0 := hid hr1
  clear hr1 CT
  go_wp2_with fail
  go_loopw [9, 10] (fun v k wr => ∃ i : Nat, k = .int .i64 (i : Int) ∧ i ≤ n2 ∧ Hid (RowOf w wr v (ts.take e0 ++ segN (fun i t => if i = 0 then par else t.kind + (e0 : Int)) br 0 i))) (fun _ k _ => n2 - (intOf k).toNat)
  case atStart => exact ⟨0, rfl, Nat.zero_le _, by show RowOf _ _ _ (_ ++ []); rw [List.append_nil]; exact HX0.out⟩
  case round =>
    clear HX0
    obtain ⟨i, rfl, hi, HX⟩ := hrel
    by_cases hlt : i < n2
    · have his : i < br.length := by rw [HN2.out]; exact hlt
      have hin : (i : Int) < (n2 : Int) := by omega
      have HTS := hid (segN_next (f := fun i t => if i = 0 then par else t.kind + (e0 : Int)) (ts := br) (k := 0) (m := i) (t := br[i]) (by rw [Nat.zero_add]; exact seg_of his))
      rw [Nat.zero_add] at HTS
      have HLT := hid (show (ts.take e0 ++ segN (fun i t => if i = 0 then par else t.kind + (e0 : Int)) br 0 i).length ≤ 1048576 by rw [List.length_append, List.length_take, segN_len i (by omega)]; omega)
      have hkb := HK2.out _ (List.getElem_mem his)
      have HZT := hid (HZ2.out _ (List.getElem_mem his))
      obtain ⟨b, o, aa, ca, e', hb, q0, q1, q2, q3, hA⟩ := (HR2.out.below HX.out.bel) i his
      subst e'
      have HAT := hid hA
      obtain ⟨t, ht⟩ : ∃ t, br[i] = t := ⟨_, rfl⟩
      rw [ht] at q0 q1 q2 q3 HAT HZT HTS hkb
      clear ht hA
      obtain ⟨nA, hnA⟩ : ∃ nA, t.attrs.length = nA := ⟨_, rfl⟩
      have HNA := hid hnA
      rw [hnA] at q2
      clear hnA
      have HL1 := hid ((Below.refl wr.heap.size wr).alloc (Nat.le_refl _) (.cells #[.int .i64 t.kind, .string t.name, .slice aa nA ca, .string t.text] 50))
      have CC := hid (fun wx (h : AtRow wx aa t.attrs) => cCopyS aa ca t.attrs wx h HZT.out.2.1)
      rw [HNA.out] at CC
      obtain ⟨K, hK⟩ : ∃ K, t.kind = K := ⟨_, rfl⟩
      have HKK := hid hK
      rw [hK] at q0 hkb HL1
      obtain ⟨hk1, hk2⟩ := hkb
      clear hK
      go_wp2_with fail
      refine (CC.out _ (HAT.out.below HL1.out)).mono ?_
      rintro e w2 ⟨a1, c1, rfl, ha1, hb2⟩
      have HBX := hid (Bx.made (c1 := c1) (t := t) (nA := nA) (aa := aa) (ca := ca) (a1 := a1) (w2 := w2) (by rw [HKK.out]; simpa using hb2) (by simpa using ha1))
      have M2 := hid (blk_below (heap_alloc_new _ _) hb2)
      obtain ⟨⟨x0, x1, x2, x3⟩, f0, f1, f2, f3⟩ := box4 M2.out
      clear ha1 hb2 CC HL1 q0 q1 q2 q3 hb M2
      obtain ⟨w3, hw3⟩ : ∃ w3, w2.setCell ⟨wr.heap.size, 2, none⟩ (.slice a1 nA c1) = w3 := ⟨_, rfl⟩
      rw [hw3] at HBX
      obtain ⟨⟨y0, y1, y2, y3⟩, g0, g1, g2, g3⟩ := box4 HBX.out.box
      rw [HKK.out] at y0
      have HBX4 := hid (HBX.out.kind (K + (e0 : Int)))
      obtain ⟨w4, hw4⟩ : ∃ w4, w3.setCell ⟨wr.heap.size, 0, none⟩ (.int .i64 (K + (e0 : Int))) = w4 := ⟨_, rfl⟩
      rw [hw4] at HBX4
      obtain ⟨⟨z0, z1, z2, z3⟩, h0, h1, h2, h3⟩ := box4 HBX4.out.box
      by_cases hm0 : i = 0
      · have HBX5 := hid (HBX4.out.kind par)
        obtain ⟨w5, hw5⟩ : ∃ w5, w4.setCell ⟨wr.heap.size, 0, none⟩ (.int .i64 par) = w5 := ⟨_, rfl⟩
        rw [hw5] at HBX5
        obtain ⟨⟨v0, v1, v2, v3⟩, _⟩ := box4 HBX5.out.box
        have HFN := hid (show shK par (shK (K + (e0 : Int)) t) = shK (if i = 0 then par else t.kind + (e0 : Int)) t by rw [if_pos hm0]; rfl)
        have hqq : ((i : Int) == 0) = true := by simp; omega
        clear hm0
        go_wp2_with (at_builtin; refine wpL_bx w wr w5 rfl _ _ rfl u9 _ rfl HX.out (shK par (shK (K + (e0 : Int)) t)) a1 c1 nA rfl HNA.out HBX5.out HLT.out ?_)
        intro v6 w6 hr6
        have HR6 := hid hr6
        rw [HFN.out] at HR6
        try rw [List.append_assoc] at HR6
        rw [← HTS.out] at HR6
        clear hr6 x0 x1 x2 x3 y0 y1 y2 y3 z0 z1 z2 z3 v0 v1 v2 v3 hw3 hw4 hw5
        go_wp2_with fail
        go_roundw
        case rel => exact ⟨i + 1, by go_num, by omega, HR6.out⟩
        case measure => simp [intOf]; omega
      · have HFN := hid (show shK (K + (e0 : Int)) t = shK (if i = 0 then par else t.kind + (e0 : Int)) t by rw [if_neg hm0, HKK.out])
        have hqq : ((i : Int) == 0) = false := by simp; omega
        clear hm0
        go_wp2_with (at_builtin; refine wpL_bx w wr w4 rfl _ _ rfl u9 _ rfl HX.out (shK (K + (e0 : Int)) t) a1 c1 nA rfl HNA.out HBX4.out HLT.out ?_)
        intro v6 w6 hr6
        have HR6 := hid hr6
        rw [HFN.out] at HR6
        try rw [List.append_assoc] at HR6
        rw [← HTS.out] at HR6
        clear hr6 x0 x1 x2 x3 y0 y1 y2 y3 z0 z1 z2 z3 hw3 hw4
        go_wp2_with fail
        go_roundw
        case rel => exact ⟨i + 1, by go_num, by omega, HR6.out⟩
        case measure => simp [intOf]; omega
    · have hie : i = n2 := by omega
      subst hie
      rw [HE0.out] at HX
      clear HE0 HR2 HZ2 HK2
      go_wp2_with fail
      go_loopw [9, 12] (fun v k wr => ∃ m : Nat, k = .int .i64 ((e0 + m : Nat) : Int) ∧ e0 + m ≤ n ∧ Hid (RowOf w wr v (L0 ++ segN (fun _ t => if (e0 : Int) ≤ t.kind then t.kind + (i : Int) else t.kind) ts e0 m))) (fun _ k _ => n - (intOf k).toNat)
      case atStart => exact ⟨0, rfl, by omega, by show RowOf _ _ _ (_ ++ []); rw [List.append_nil]; exact HX.out⟩
      case round =>
        clear HX
        obtain ⟨m, rfl, hm, HX⟩ := hrel
        obtain ⟨j, hj⟩ : ∃ j, e0 + m = j := ⟨_, rfl⟩
        have HJ := hid hj
        rw [hj] at hm ⊢
        by_cases hjl : j < n
        · have hjs : j < ts.length := by rw [HN.out]; exact hjl
          have hjn : (j : Int) < (n : Int) := by omega
          have HTS := hid (segN_next (f := fun _ t => if (e0 : Int) ≤ t.kind then t.kind + (i : Int) else t.kind) (ts := ts) (k := e0) (m := m) (t := ts[j]) (by rw [hj]; exact seg_of hjs))
          have HLT := hid (show (L0 ++ segN (fun _ t => if (e0 : Int) ≤ t.kind then t.kind + (i : Int) else t.kind) ts e0 m).length ≤ 1048576 by rw [List.length_append, segN_len m (by omega)]; have := HL0.out; omega)
          have hkb := HK.out _ (List.getElem_mem hjs)
          have HZT := hid (HZ.out _ (List.getElem_mem hjs))
          obtain ⟨b, o, aa, ca, e', hb, q0, q1, q2, q3, hA⟩ := (HR.out.below HX.out.bel) j hjs
          subst e'
          have HAT := hid hA
          obtain ⟨t, ht⟩ : ∃ t, ts[j] = t := ⟨_, rfl⟩
          rw [ht] at q0 q1 q2 q3 HAT HZT HTS hkb
          clear ht hA
          obtain ⟨nA, hnA⟩ : ∃ nA, t.attrs.length = nA := ⟨_, rfl⟩
          have HNA := hid hnA
          rw [hnA] at q2
          clear hnA hj
          have HL1 := hid ((Below.refl wr.heap.size wr).alloc (Nat.le_refl _) (.cells #[.int .i64 t.kind, .string t.name, .slice aa nA ca, .string t.text] 50))
          have CC := hid (fun wx (h : AtRow wx aa t.attrs) => cCopyS aa ca t.attrs wx h HZT.out.2.1)
          rw [HNA.out] at CC
          obtain ⟨K, hK⟩ : ∃ K, t.kind = K := ⟨_, rfl⟩
          have HKK := hid hK
          rw [hK] at q0 hkb HL1
          obtain ⟨hk1, hk2⟩ := hkb
          clear hK
          go_wp2_with fail
          refine (CC.out _ (HAT.out.below HL1.out)).mono ?_
          rintro e w2 ⟨a1, c1, rfl, ha1, hb2⟩
          have HBX := hid (Bx.made (c1 := c1) (t := t) (nA := nA) (aa := aa) (ca := ca) (a1 := a1) (w2 := w2) (by rw [HKK.out]; simpa using hb2) (by simpa using ha1))
          have M2 := hid (blk_below (heap_alloc_new _ _) hb2)
          obtain ⟨⟨x0, x1, x2, x3⟩, f0, f1, f2, f3⟩ := box4 M2.out
          clear ha1 hb2 CC HL1 q0 q1 q2 q3 hb M2
          obtain ⟨w3, hw3⟩ : ∃ w3, w2.setCell ⟨wr.heap.size, 2, none⟩ (.slice a1 nA c1) = w3 := ⟨_, rfl⟩
          rw [hw3] at HBX
          obtain ⟨⟨y0, y1, y2, y3⟩, g0, g1, g2, g3⟩ := box4 HBX.out.box
          rw [HKK.out] at y0
          by_cases hge : (e0 : Int) ≤ K
          · have HBX4 := hid (HBX.out.kind (K + (i : Int)))
            obtain ⟨w4, hw4⟩ : ∃ w4, w3.setCell ⟨wr.heap.size, 0, none⟩ (.int .i64 (K + (i : Int))) = w4 := ⟨_, rfl⟩
            rw [hw4] at HBX4
            obtain ⟨⟨z0, z1, z2, z3⟩, h0, h1, h2, h3⟩ := box4 HBX4.out.box
            have HFN := hid (show shK (K + (i : Int)) t = shK (if (e0 : Int) ≤ t.kind then t.kind + (i : Int) else t.kind) t by rw [HKK.out, if_pos hge])
            have hgd : decide ((e0 : Int) ≤ K) = true := decide_eq_true hge
            go_wp2_with (at_builtin; refine wpL_bx w wr w4 rfl _ _ rfl u9 _ rfl HX.out (shK (K + (i : Int)) t) a1 c1 nA rfl HNA.out HBX4.out HLT.out ?_)
            intro v6 w6 hr6
            have HR6 := hid hr6
            rw [HFN.out] at HR6
            try rw [List.append_assoc] at HR6
            rw [← HTS.out] at HR6
            clear hr6 x0 x1 x2 x3 y0 y1 y2 y3 z0 z1 z2 z3 hw3 hw4
            go_wp2_with fail
            go_roundw
            case rel => exact ⟨m + 1, by rw [← HJ.out]; go_num, by have := HJ.out; omega, HR6.out⟩
            case measure => simp [intOf]; omega
          · have HFN := hid (show shK K t = shK (if (e0 : Int) ≤ t.kind then t.kind + (i : Int) else t.kind) t by rw [HKK.out, if_neg hge])
            have HBX4 := hid (show Bx wr w3 (shK K t) nA a1 c1 by rw [show shK K t = t by rw [← HKK.out]; rfl]; exact HBX.out)
            have hgd : decide ((e0 : Int) ≤ K) = false := decide_eq_false hge
            go_wp2_with (at_builtin; refine wpL_bx w wr w3 rfl _ _ rfl u9 _ rfl HX.out (shK K t) a1 c1 nA rfl HNA.out HBX4.out HLT.out ?_)
            intro v6 w6 hr6
            have HR6 := hid hr6
            rw [HFN.out] at HR6
            try rw [List.append_assoc] at HR6
            rw [← HTS.out] at HR6
            clear hr6 x0 x1 x2 x3 y0 y1 y2 y3 hw3
            go_wp2_with fail
            go_roundw
            case rel => exact ⟨m + 1, by rw [← HJ.out]; go_num, by have := HJ.out; omega, HR6.out⟩
            case measure => simp [intOf]; omega
        · have hje : j = n := by omega
          subst hje
          have HY := hid (show RowOf w wr u9 (L0 ++ segN (fun _ t => if (e0 : Int) ≤ t.kind then t.kind + (i : Int) else t.kind) ts e0 (j - e0)) by
            have h := HX.out
            rw [show j - e0 = m by omega]
            exact h)
          clear HX
          go_wp2_with fail
          go_ret
          exact ⟨_, rfl, HY.out⟩

end Go.Proofs.Ytkejmifkjgpdjaa

namespace Go.Proofs.Ytkejmifkjgpdjaa
open Go.RowKit
set_option linter.unusedVariables false
set_option linter.unusedSimpArgs false

theorem tk_drop {w : World} {b o : Nat} {ts : List Tk} (h : TkRow w (some ⟨b, o, none⟩) ts) (k : Nat) : TkRow w (some ⟨b, o + k * 4, none⟩) (ts.drop k) := by
  intro j hj
  rw [List.length_drop] at hj
  obtain ⟨b', o', aa, ca, e, hb, q0, q1, q2, q3, q4⟩ := h (k + j) (by omega)
  cases e
  rw [List.getElem_drop]
  have e1 : o + k * 4 + j * 4 = o + (k + j) * 4 := by omega
  exact ⟨b, o + k * 4, aa, ca, rfl, hb, by rw [e1]; exact q0, by rw [e1]; exact q1, by rw [e1]; exact q2, by rw [e1]; exact q3, q4⟩

theorem sl_from (b o L cap k : Nat) (h : k ≤ L) (hL : L ≤ cap) (W : World) : (Instr.slice 26 (.slice (some ⟨b, o, none⟩) L cap) (some (.int .i64 k)) none none).run Try.prog W = .ok (.slice (some (if cap = k then ⟨b, o, none⟩ else ⟨b, o + k * 4, none⟩)) (L - k) (cap - k)) W := by
  have h' : (k : Int) ≤ L := by omega
  have h2 : (L : Int) ≤ cap := by omega
  go_simp
  by_cases e : cap = k <;> simp [e, Addr.add]

/-- What stands behind, as a row. -/
theorem tk_from {w : World} {b o cap k : Nat} {ts : List Tk} (h : TkRow w (some ⟨b, o, none⟩) ts) (hc : ts.length ≤ cap) : TkRow w (some (if cap = k then ⟨b, o, none⟩ else ⟨b, o + k * 4, none⟩)) (ts.drop k) := by
  split
  · intro j hj
    rw [List.length_drop] at hj
    omega
  · exact tk_drop h k

/-- A row of nodes as cells, and where their attrs lie. -/
theorem rowG {w : World} {b o : Nat} {ts : List Tk} (h : TkRow w (some ⟨b, o, none⟩) ts) : ∀ n, n ≤ ts.length → ∃ es : List Nd.E, es.map (·.t) = ts.take n ∧ (∀ j u, (Nd.cs es)[j]? = some u → w.cell? ((⟨b, o, none⟩ : Addr).add j) = some u) ∧ ∀ e ∈ es, AtRow w e.a e.t.attrs
  | 0, _ => ⟨[], by simp, fun j u hj => by simp [Nd.cs] at hj, fun e he => absurd he List.not_mem_nil⟩
  | n + 1, hn => by
    obtain ⟨es, e1, e2, e3⟩ := rowG h n (by omega)
    obtain ⟨b', o', aa, ca, e, hb, q0, q1, q2, q3, q4⟩ := h n (by omega)
    obtain ⟨rfl, rfl⟩ : b = b' ∧ o = o' := by cases e; exact ⟨rfl, rfl⟩
    have hl : es.length = n := by
      have := congrArg List.length e1
      rw [List.length_map, List.length_take] at this
      omega
    refine ⟨es ++ [⟨ts[n], aa, ca⟩], by rw [List.map_append, e1, take_snocN (by omega)]; rfl, fun j u hj => ?_, fun e he => ?_⟩
    · rw [Nd.cs_app, Nd.cs_one] at hj
      by_cases hlt : j < (Nd.cs es).length
      · rw [List.getElem?_append_left hlt] at hj
        exact e2 j u hj
      · rw [List.getElem?_append_right (by omega)] at hj
        rw [Nd.cs_len, hl] at hj hlt
        rw [add_plainW]
        have h4 : j - n * 4 < 4 := by
          have := (List.getElem?_eq_some_iff.1 hj).1
          exact this
        obtain ⟨d, hd, hd4⟩ : ∃ d, j = n * 4 + d ∧ d < 4 := ⟨j - n * 4, by omega, h4⟩
        subst hd
        rw [show n * 4 + d - n * 4 = d by omega] at hj
        rw [← Nat.add_assoc]
        match d, hd4, hj with
        | 0, _, hj => cases hj; exact q0
        | 1, _, hj => cases hj; exact q1
        | 2, _, hj => cases hj; exact q2
        | 3, _, hj => cases hj; exact q3
    · rcases List.mem_append.1 he with h' | h'
      · exact e3 e h'
      · rw [List.mem_singleton] at h'
        subst h'
        exact q4

/-- A row of one's own, the attrs wherever. -/
theorem tkG {w : World} {B g cap : Nat} {es : List Nd.E} (h : w.ownsRow B 50 4 (.slice (some ⟨g, 0, none⟩) es.length cap) es.length (Nd.cs es)) (ha : ∀ e ∈ es, AtRow w e.a e.t.attrs) : TkRow w (some ⟨g, 0, none⟩) (es.map (·.t)) := by
  intro j hj
  rw [List.length_map] at hj
  obtain ⟨k0, k1, k2, k3⟩ := Nd.cs_get es j hj
  have hx : ∀ k, k < es.length * 4 → ∀ u, (Nd.cs es)[k]? = some u → w.cell? ⟨g, 0 + k, none⟩ = some u := by
    intro k hk u hu
    rw [Nat.zero_add, World.ownsRow.cellAt h k hk]
    exact hu
  have hg : g < w.heap.size := by
    rcases h.2 with ⟨e, _⟩ | ⟨g', cap', cur, e, hg, hh, _⟩
    · cases e
    · cases e; exact lt_of_heap hh
  rw [List.getElem_map]
  exact ⟨g, 0, es[j].a, es[j].cap, rfl, hg, hx _ (by omega) _ k0, hx _ (by omega) _ k1, hx _ (by omega) _ k2, hx _ (by omega) _ k3, ha _ (List.getElem_mem hj)⟩

/-- append of a row of others' nodes, of none too, to a new one. -/
theorem wpL_fresh (W0 : World) {ops : Array Oper} {rest : List Oper} {o : Oper} {a : Act} {Q : Exit → Act → World → Prop} (hgd : o.guard = none) (s x : Operand)
    (ho : o.op = .call { callee := .builtin .append, args := #[s, x], argTypes := #[26, 26] }) (hs : a.eval s = .slice (some ⟨W0.heap.size, 0, none⟩) 0 0)
    (aD : Option Addr) (D : List Tk) (d cD : Nat) (hd : D.length = d) (hx : a.eval x = .slice aD d cD) (hR : TkRow W0 aD D) (hn : d ≤ 1048576)
    (h : ∀ a' c' w', TkRow w' a' D → Below W0.heap.size W0 w' → wpList Try.prog ops Q rest (a.put o.dst (.slice a' d c')) w') : wpList Try.prog ops Q (o :: rest) a (W0.alloc (.cells #[] 50)) := by
  obtain ⟨i0, hi, hz0, hz1, hz2⟩ := info_parts Nd.infoR
  have hB0 := (Below.refl W0.heap.size W0).alloc (Nat.le_refl _) (.cells #[] 50)
  have hown : (W0.alloc (.cells #[] 50)).ownsRow W0.heap.size 50 4 (.slice (some ⟨W0.heap.size, 0, none⟩) 0 0) 0 [] :=
    ⟨by simp, .inr ⟨W0.heap.size, 0, #[], rfl, Nat.le_refl _, heap_alloc_new _ _, Nat.le_refl _, Nat.zero_le _, by simp, by simp⟩⟩
  by_cases h0 : d = 0
  · subst h0
    exact wpL_none _ hgd s x 26 50 i0 ho Try.underlying26 hi _ _ _ hs (Nat.le_refl _) aD cD hx (h _ _ _ (fun j hj => by omega) hB0)
  · obtain ⟨b, o', aa, ca, e, hb, _⟩ := hR 0 (by omega)
    subst e
    obtain ⟨es, e1, e2, e3⟩ := rowG hR D.length (Nat.le_refl _)
    rw [List.take_of_length_le (Nat.le_refl _)] at e1
    have hel : es.length = d := by rw [← hd, ← e1, List.length_map]
    refine wpList_append_own_at _ hgd s x 26 ho W0.heap.size 50 i0 _ 4 64 Try.underlying26 hi hz0 hz1 hz2 rfl (by decide) _ 0 [] hs hown ⟨b, o', none⟩ d cD (Nd.cs es) hx (by rw [Nd.cs_len, hel]) (fun j u hj => ?_) (Nd.cs_cell es) (by unfold maxLen; omega) (by omega) hB0.size ?_
    · have h1 := e2 j u hj
      rw [add_plainW] at h1 ⊢
      exact (hB0.cell (p := ⟨b, o' + j, none⟩) hb).trans h1
    · intro v' w' h1 h2 _ _
      have hB1 := hB0.grown h2 (by simp) (fun k hk => (hown.lt k hk).1)
      rw [Nat.zero_add, List.nil_append] at h1
      rcases h1.2 with ⟨_, h'⟩ | ⟨g, cap, cur, rfl, _⟩
      · exact absurd h' h0
      · refine h _ _ _ ?_ hB1
        rw [← e1]
        rw [← hel] at h1
        exact tkG h1 (fun e he => (e3 e he).below hB1)

/-- append of a row of one's own to another one. -/
theorem wpL_two (w W1 W : World) {ops : Array Oper} {rest : List Oper} {o : Oper} {a : Act} {Q : Exit → Act → World → Prop} (hgd : o.guard = none) (s x : Operand)
    (ho : o.op = .call { callee := .builtin .append, args := #[s, x], argTypes := #[26, 26] }) (v v2 : Value) (L L2 : List Tk) (hs : a.eval s = v) (hx : a.eval x = v2) (h1 : RowOf w W1 v L) (h2 : RowOf W1 W v2 L2) (hn : L.length + L2.length ≤ 2097152)
    (h : ∀ v' w', RowOf w w' v' (L ++ L2) → wpList Try.prog ops Q rest (a.put o.dst v') w') : wpList Try.prog ops Q (o :: rest) a W := by
  obtain ⟨i0, hi, hz0, hz1, hz2⟩ := info_parts Nd.infoR
  have hW := h1.below h2.bel
  obtain ⟨es, a1, c1, rfl, hr1, hm1, hl1⟩ := h1.open
  obtain ⟨fs, a2, c2, rfl, hr2, hm2, hl2⟩ := h2.open
  by_cases h0 : fs = []
  · subst h0
    have hL2 : L2 = [] := by rw [← hm2]; rfl
    subst hL2
    rw [List.append_nil] at h
    refine wpL_none _ hgd s x 26 50 i0 ho Try.underlying26 hi a1 es.length c1 hs ?_ a2 c2 hx (h _ _ hW)
    rcases hr1.own.2 with ⟨e, _⟩ | ⟨g, cap, cur, e, _, _, hc, _⟩
    · injection e with e1 e2 e3
      rw [e2]
      exact Nat.zero_le _
    · injection e with e1 e2 e3
      rw [e3]
      exact hc
  · obtain ⟨g, e, _, hcs⟩ := hr2.cells h0
    subst e
    obtain ⟨k1, k2⟩ := hr1.apart_later hr2 (Nat.le_refl _)
    refine Nd.wpL_join W hgd s x ho w.heap.size _ es fs hs (hr1.below h2.bel) g fs.length c2 hx rfl hcs (fun e he => ⟨own_lift (hr2.ats e he).1 h1.bel.size, fun g' o' hl' e' => k2 e he g' o' hl' e'⟩) hr2.apart k1 (by omega) hW.bel.size ?_
    intro a' c' w' h3 h4 _
    exact h _ _ ⟨⟨_, a', c', rfl, h3, by rw [List.map_append, hm1, hm2]⟩, hW.bel.trans h4⟩

end Go.Proofs.Ytkejmifkjgpdjaa
