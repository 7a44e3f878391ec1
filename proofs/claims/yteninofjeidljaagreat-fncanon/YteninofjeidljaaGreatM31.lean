/- A node of a row of one's own is changed in its place. Contracts of the specification's l10Put, Grafted. Rows joined: a row of others' nodes made one's own, two rows of one's own made one. Contract of the specification's l10Cut. -/
import Derived.Test.YteninofjeidljaaGreatM30
import Derived.Test.YteninofjeidljaaGreatM9
import Derived.Test.YteninofjeidljaaGreatM26
import Derived.Laws.OwnMore
import Derived.Deep.CutRange
import Derived.Deep.QuietTactic
import Derived.BigQuiet
import Derived.Deep.RegionHeld3
namespace Go.Proofs.YteninofjeidljaaGreat

open Go.RowKit

set_option linter.unusedVariables false

set_option linter.unusedSimpArgs false

theorem cs_put {es : List Nd.E} : ∀ {x : Nat} (hx : x < es.length) {f : Nat} (hf : f < 4) {u : Value} {e' : Nd.E}, Nd.c1 e' = (Nd.c1 es[x]).set f u → (Nd.cs es).set (x * 4 + f) u = Nd.cs (es.set x e') := by
  induction es with
  | nil => intro x hx; simp at hx
  | cons y es ih =>
    intro x hx f hf u e' he
    have e1 : Nd.cs (y :: es) = Nd.c1 y ++ Nd.cs es := rfl
    have hl : (Nd.c1 y).length = 4 := rfl
    match x with
    | 0 =>
      simp only [List.getElem_cons_zero] at he
      have e2 : Nd.cs ((y :: es).set 0 e') = Nd.c1 e' ++ Nd.cs es := rfl
      rw [e1, e2, he, Nat.zero_mul, Nat.zero_add, List.set_append, if_pos (by rw [hl]; exact hf)]
    | x + 1 =>
      have e2 : Nd.cs ((y :: es).set (x + 1) e') = Nd.c1 y ++ Nd.cs (es.set x e') := rfl
      rw [e1, e2, List.set_append, if_neg (by rw [hl]; omega), hl, show (x + 1) * 4 + f - 4 = x * 4 + f by omega, ih (by simpa using hx) hf (by simpa using he)]

theorem Row.put {w : World} {B g n c : Nat} {es : List Nd.E} (h : Nd.Row w B (.slice (some ⟨g, 0, none⟩) n c) es) {x : Nat} (hx : x < es.length) {f : Nat} (hf : f < 4) {u : Value} {e' : Nd.E} (he : Nd.c1 e' = (Nd.c1 es[x]).set f u) (h1 : e'.a = es[x].a) (h2 : e'.t.attrs = es[x].t.attrs) :
    Nd.Row (w.setCell ⟨g, x * 4 + f, none⟩ u) B (.slice (some ⟨g, 0, none⟩) n c) (es.set x e') := by
  have hn : n = es.length := by
    rcases h.own.2 with ⟨e, h0⟩ | ⟨g', cap', cur, e, _⟩
    · cases e
    · cases e; rfl
  subst hn
  have hs := World.ownsRow.stored h.own (x * 4 + f) u
  have key : ∀ e : Nd.E, (OwnAts w B e.a e.t.attrs ∧ ∀ g' o, 0 < e.t.attrs.length → e.a = some ⟨g', o, none⟩ → ¬ (Value.slice (some ⟨g, 0, none⟩) es.length c).ownBlock = some g') → OwnAts (w.setCell ⟨g, x * 4 + f, none⟩ u) B e.a e.t.attrs := by
    rintro e ⟨k1, k2⟩ hl
    obtain ⟨g1, o1, cu, a1, a2, a3, a4⟩ := k1 hl
    refine ⟨g1, o1, cu, a1, a2, ?_, a4⟩
    have hne := k2 g1 o1 hl a1
    exact (hs.2.block g1 (lt_of_heap a3) (fun e => hne (by simpa [Value.ownBlock] using e.symm))).trans a3
  refine ⟨?_, fun e hm => ?_, ?_⟩
  · rw [List.length_set, ← cs_put hx hf he]
    exact hs.1
  · rcases List.mem_or_eq_of_mem_set hm with h' | h'
    · exact ⟨key e (h.ats e h'), (h.ats e h').2⟩
    · subst h'
      have k := h.ats es[x] (List.getElem_mem hx)
      have k' : OwnAts w B e.a e.t.attrs ∧ ∀ g' o, 0 < e.t.attrs.length → e.a = some ⟨g', o, none⟩ → ¬ (Value.slice (some ⟨g, 0, none⟩) es.length c).ownBlock = some g' := by rw [h1, h2]; exact k
      exact ⟨key _ k', k'.2⟩
  · rw [List.pairwise_iff_getElem]
    intro i j hi hj hij
    rw [List.length_set] at hi hj
    have hp := List.pairwise_iff_getElem.1 h.apart i j hi hj hij
    have ei : ∀ (k : Nat) (hk : k < es.length), ((es.set x e')[k]'(by rw [List.length_set]; exact hk)).a = es[k].a ∧ ((es.set x e')[k]'(by rw [List.length_set]; exact hk)).t.attrs = es[k].t.attrs := by
      intro k hk
      rw [List.getElem_set]
      split
      · rename_i hxk
        subst hxk
        exact ⟨h1, h2⟩
      · exact ⟨rfl, rfl⟩
    unfold Nd.Apart at hp ⊢
    rw [(ei i hi).1, (ei i hi).2, (ei j hj).1, (ei j hj).2]
    exact hp

/-- The row with a node changed, as trees. -/
theorem RowOf.put {w wr : World} {v : Value} {L : List Tk} (h : RowOf w wr v L) {x : Nat} {t : Tk} (hx : L[x]? = some t) : ∃ g c, v = .slice (some ⟨g, 0, none⟩) L.length c ∧ w.heap.size ≤ g ∧
    (∃ aa ca, wr.cell? ⟨g, x * 4, none⟩ = some (.int .i64 t.kind) ∧ wr.cell? ⟨g, x * 4 + 1, none⟩ = some (.string t.name) ∧ wr.cell? ⟨g, x * 4 + 2, none⟩ = some (.slice aa t.attrs.length ca) ∧ wr.cell? ⟨g, x * 4 + 3, none⟩ = some (.string t.text)) ∧ (∀ j, wr.frozen? ⟨g, j, none⟩ = false) ∧
    (∀ k, RowOf w (wr.setCell ⟨g, x * 4, none⟩ (.int .i64 k)) v (L.set x (shK k t))) ∧ ∀ s, RowOf w (wr.setCell ⟨g, x * 4 + 3, none⟩ (.string s)) v (L.set x ⟨t.kind, t.name, t.attrs, s⟩) := by
  obtain ⟨es, a, c, rfl, hr, hm, hl⟩ := h.open
  have hxl : x < es.length := by
    rcases Nat.lt_or_ge x es.length with h' | h'
    · exact h'
    · rw [List.getElem?_eq_none (by omega)] at hx; cases hx
  have hxt : es[x].t = t := by
    have : (es.map (·.t))[x]? = some t := by rw [hm]; exact hx
    rw [List.getElem?_map, List.getElem?_eq_getElem hxl] at this
    exact Option.some.inj this
  rcases hr.own.2 with ⟨e, h0⟩ | ⟨g, cap, cur, e, hg, hh, _⟩
  · omega
  · cases e
    obtain ⟨k0, k1, k2, k3⟩ := Nd.cs_get es x hxl
    have hc : ∀ j, j < es.length * 4 → wr.cell? ⟨g, j, none⟩ = (Nd.cs es)[j]? := fun j hj => World.ownsRow.cellAt hr.own j hj
    refine ⟨g, c, by rw [hl], hg, ⟨es[x].a, es[x].cap, ?_, ?_, ?_, ?_⟩, fun j => World.ownsRow.frozenAt hr.own j, fun k => ?_, fun s => ?_⟩
    · rw [hc _ (by omega), k0, hxt]
    · rw [hc _ (by omega), k1, hxt]
    · rw [hc _ (by omega), k2, hxt]
    · rw [hc _ (by omega), k3, hxt]
    · have hp := Row.put hr hxl (f := 0) (by decide) (u := .int .i64 k) (e' := ⟨shK k t, es[x].a, es[x].cap⟩) (by unfold Nd.c1; rw [hxt]; rfl) rfl (by rw [hxt]; rfl)
      refine ⟨⟨es.set x ⟨shK k t, es[x].a, es[x].cap⟩, _, c, by rw [List.length_set], by rw [List.length_set]; exact hp, by rw [List.map_set, hm]⟩, h.bel.setCell (p := ⟨g, x * 4, none⟩) hg _⟩
    · have hp := Row.put hr hxl (f := 3) (by decide) (u := .string s) (e' := ⟨⟨t.kind, t.name, t.attrs, s⟩, es[x].a, es[x].cap⟩) (by unfold Nd.c1; rw [hxt]; rfl) rfl (by rw [hxt])
      refine ⟨⟨es.set x ⟨⟨t.kind, t.name, t.attrs, s⟩, es[x].a, es[x].cap⟩, _, c, by rw [List.length_set], by rw [List.length_set]; exact hp, by rw [List.map_set, hm]⟩, h.bel.setCell (p := ⟨g, x * 4 + 3, none⟩) hg _⟩

end Go.Proofs.YteninofjeidljaaGreat

namespace Go.Proofs.YteninofjeidljaaGreat

open Go.RowKit

set_option linter.unusedVariables false

set_option linter.unusedSimpArgs false

end Go.Proofs.YteninofjeidljaaGreat

namespace Go.Proofs.YteninofjeidljaaGreat

open Go.RowKit

set_option linter.unusedVariables false

set_option linter.unusedSimpArgs false

theorem tk_drop {w : World} {b o : Nat} {ts : List Tk} (h : TkRow w (some ⟨b, o, none⟩) ts) (k : Nat) : TkRow w (some ⟨b, o + k * 4, none⟩) (ts.drop k) := by
  intro j hj
  rw [List.length_drop] at hj
  obtain ⟨b', o', aa, ca, e, hb, q0, q1, q2, q3, q4⟩ := h (k + j) (by omega)
  cases e
  rw [List.getElem_drop]
  have e1 : o + k * 4 + j * 4 = o + (k + j) * 4 := by omega
  exact ⟨b, o + k * 4, aa, ca, rfl, hb, by rw [e1]; exact q0, by rw [e1]; exact q1, by rw [e1]; exact q2, by rw [e1]; exact q3, q4⟩

theorem sl_from (b o L cap k : Nat) (h : k ≤ L) (hL : L ≤ cap) (W : World) : (Instr.slice 24 (.slice (some ⟨b, o, none⟩) L cap) (some (.int .i64 k)) none none).run Tryz.prog W = .ok (.slice (some (if cap = k then ⟨b, o, none⟩ else ⟨b, o + k * 4, none⟩)) (L - k) (cap - k)) W := by
  have h' : (k : Int) ≤ L := by omega
  have h2 : (L : Int) ≤ cap := by omega
  go_simp
  by_cases e : cap = k <;> simp [e, Addr.add]

/-- What stands behind, as a row. -/
theorem tk_from {w : World} {b o cap k : Nat} {ts : List Tk} (h : TkRow w (some ⟨b, o, none⟩) ts) (hc : ts.length ≤ cap) : TkRow w (some (if cap = k then ⟨b, o, none⟩ else ⟨b, o + k * 4, none⟩)) (ts.drop k) := by
  split
  · intro j hj
    rw [List.length_drop] at hj
    omega
  · exact tk_drop h k

/-- A row of nodes as cells, and where their attrs lie. -/
theorem rowG {w : World} {b o : Nat} {ts : List Tk} (h : TkRow w (some ⟨b, o, none⟩) ts) : ∀ n, n ≤ ts.length → ∃ es : List Nd.E, es.map (·.t) = ts.take n ∧ (∀ j u, (Nd.cs es)[j]? = some u → w.cell? ((⟨b, o, none⟩ : Addr).add j) = some u) ∧ ∀ e ∈ es, AtRow w e.a e.t.attrs
  | 0, _ => ⟨[], by simp, fun j u hj => by simp [Nd.cs] at hj, fun e he => absurd he List.not_mem_nil⟩
  | n + 1, hn => by
    obtain ⟨es, e1, e2, e3⟩ := rowG h n (by omega)
    obtain ⟨b', o', aa, ca, e, hb, q0, q1, q2, q3, q4⟩ := h n (by omega)
    obtain ⟨rfl, rfl⟩ : b = b' ∧ o = o' := by cases e; exact ⟨rfl, rfl⟩
    have hl : es.length = n := by
      have := congrArg List.length e1
      rw [List.length_map, List.length_take] at this
      omega
    refine ⟨es ++ [⟨ts[n], aa, ca⟩], by rw [List.map_append, e1, take_snocN (by omega)]; rfl, fun j u hj => ?_, fun e he => ?_⟩
    · rw [Nd.cs_app, Nd.cs_one] at hj
      by_cases hlt : j < (Nd.cs es).length
      · rw [List.getElem?_append_left hlt] at hj
        exact e2 j u hj
      · rw [List.getElem?_append_right (by omega)] at hj
        rw [Nd.cs_len, hl] at hj hlt
        rw [add_plainW]
        have h4 : j - n * 4 < 4 := by
          have := (List.getElem?_eq_some_iff.1 hj).1
          exact this
        obtain ⟨d, hd, hd4⟩ : ∃ d, j = n * 4 + d ∧ d < 4 := ⟨j - n * 4, by omega, h4⟩
        subst hd
        rw [show n * 4 + d - n * 4 = d by omega] at hj
        rw [← Nat.add_assoc]
        match d, hd4, hj with
        | 0, _, hj => cases hj; exact q0
        | 1, _, hj => cases hj; exact q1
        | 2, _, hj => cases hj; exact q2
        | 3, _, hj => cases hj; exact q3
    · rcases List.mem_append.1 he with h' | h'
      · exact e3 e h'
      · rw [List.mem_singleton] at h'
        subst h'
        exact q4

/-- A row of one's own, the attrs wherever. -/
theorem tkG {w : World} {B g cap : Nat} {es : List Nd.E} (h : w.ownsRow B 42 4 (.slice (some ⟨g, 0, none⟩) es.length cap) es.length (Nd.cs es)) (ha : ∀ e ∈ es, AtRow w e.a e.t.attrs) : TkRow w (some ⟨g, 0, none⟩) (es.map (·.t)) := by
  intro j hj
  rw [List.length_map] at hj
  obtain ⟨k0, k1, k2, k3⟩ := Nd.cs_get es j hj
  have hx : ∀ k, k < es.length * 4 → ∀ u, (Nd.cs es)[k]? = some u → w.cell? ⟨g, 0 + k, none⟩ = some u := by
    intro k hk u hu
    rw [Nat.zero_add, World.ownsRow.cellAt h k hk]
    exact hu
  have hg : g < w.heap.size := by
    rcases h.2 with ⟨e, _⟩ | ⟨g', cap', cur, e, hg, hh, _⟩
    · cases e
    · cases e; exact lt_of_heap hh
  rw [List.getElem_map]
  exact ⟨g, 0, es[j].a, es[j].cap, rfl, hg, hx _ (by omega) _ k0, hx _ (by omega) _ k1, hx _ (by omega) _ k2, hx _ (by omega) _ k3, ha _ (List.getElem_mem hj)⟩

/-- append of a row of others' nodes, of none too, to a new one. -/
theorem wpL_fresh (W0 : World) {ops : Array Oper} {rest : List Oper} {o : Oper} {a : Act} {Q : Exit → Act → World → Prop} (hgd : o.guard = none) (s x : Operand)
    (ho : o.op = .call { callee := .builtin .append, args := #[s, x], argTypes := #[24, 24] }) (hs : a.eval s = .slice (some ⟨W0.heap.size, 0, none⟩) 0 0)
    (aD : Option Addr) (D : List Tk) (d cD : Nat) (hd : D.length = d) (hx : a.eval x = .slice aD d cD) (hR : TkRow W0 aD D) (hn : d ≤ 1048576)
    (h : ∀ a' c' w', TkRow w' a' D → Below W0.heap.size W0 w' → wpList Tryz.prog ops Q rest (a.put o.dst (.slice a' d c')) w') : wpList Tryz.prog ops Q (o :: rest) a (W0.alloc (.cells #[] 42)) := by
  obtain ⟨i0, hi, hz0, hz1, hz2⟩ := info_parts Nd.infoR
  have hB0 := (Below.refl W0.heap.size W0).alloc (Nat.le_refl _) (.cells #[] 42)
  have hown : (W0.alloc (.cells #[] 42)).ownsRow W0.heap.size 42 4 (.slice (some ⟨W0.heap.size, 0, none⟩) 0 0) 0 [] :=
    ⟨by simp, .inr ⟨W0.heap.size, 0, #[], rfl, Nat.le_refl _, heap_alloc_new _ _, Nat.le_refl _, Nat.zero_le _, by simp, by simp⟩⟩
  by_cases h0 : d = 0
  · subst h0
    exact wpL_none _ hgd s x 24 42 i0 ho Tryz.underlying24 hi _ _ _ hs (Nat.le_refl _) aD cD hx (h _ _ _ (fun j hj => by omega) hB0)
  · obtain ⟨b, o', aa, ca, e, hb, _⟩ := hR 0 (by omega)
    subst e
    obtain ⟨es, e1, e2, e3⟩ := rowG hR D.length (Nat.le_refl _)
    rw [List.take_of_length_le (Nat.le_refl _)] at e1
    have hel : es.length = d := by rw [← hd, ← e1, List.length_map]
    refine wpList_append_own_at _ hgd s x 24 ho W0.heap.size 42 i0 _ 4 64 Tryz.underlying24 hi hz0 hz1 hz2 rfl (by decide) _ 0 [] hs hown ⟨b, o', none⟩ d cD (Nd.cs es) hx (by rw [Nd.cs_len, hel]) (fun j u hj => ?_) (Nd.cs_cell es) (by unfold maxLen; omega) (by omega) hB0.size ?_
    · have h1 := e2 j u hj
      rw [add_plainW] at h1 ⊢
      exact (hB0.cell (p := ⟨b, o' + j, none⟩) hb).trans h1
    · intro v' w' h1 h2 _ _
      have hB1 := hB0.grown h2 (by simp) (fun k hk => (hown.lt k hk).1)
      rw [Nat.zero_add, List.nil_append] at h1
      rcases h1.2 with ⟨_, h'⟩ | ⟨g, cap, cur, rfl, _⟩
      · exact absurd h' h0
      · refine h _ _ _ ?_ hB1
        rw [← e1]
        rw [← hel] at h1
        exact tkG h1 (fun e he => (e3 e he).below hB1)

/-- append of a row of one's own to another one. -/
theorem wpL_two (w W1 W : World) {ops : Array Oper} {rest : List Oper} {o : Oper} {a : Act} {Q : Exit → Act → World → Prop} (hgd : o.guard = none) (s x : Operand)
    (ho : o.op = .call { callee := .builtin .append, args := #[s, x], argTypes := #[24, 24] }) (v v2 : Value) (L L2 : List Tk) (hs : a.eval s = v) (hx : a.eval x = v2) (h1 : RowOf w W1 v L) (h2 : RowOf W1 W v2 L2) (hn : L.length + L2.length ≤ 2097152)
    (h : ∀ v' w', RowOf w w' v' (L ++ L2) → wpList Tryz.prog ops Q rest (a.put o.dst v') w') : wpList Tryz.prog ops Q (o :: rest) a W := by
  obtain ⟨i0, hi, hz0, hz1, hz2⟩ := info_parts Nd.infoR
  have hW := h1.below h2.bel
  obtain ⟨es, a1, c1, rfl, hr1, hm1, hl1⟩ := h1.open
  obtain ⟨fs, a2, c2, rfl, hr2, hm2, hl2⟩ := h2.open
  by_cases h0 : fs = []
  · subst h0
    have hL2 : L2 = [] := by rw [← hm2]; rfl
    subst hL2
    rw [List.append_nil] at h
    refine wpL_none _ hgd s x 24 42 i0 ho Tryz.underlying24 hi a1 es.length c1 hs ?_ a2 c2 hx (h _ _ hW)
    rcases hr1.own.2 with ⟨e, _⟩ | ⟨g, cap, cur, e, _, _, hc, _⟩
    · injection e with e1 e2 e3
      rw [e2]
      exact Nat.zero_le _
    · injection e with e1 e2 e3
      rw [e3]
      exact hc
  · obtain ⟨g, e, _, hcs⟩ := hr2.cells h0
    subst e
    obtain ⟨k1, k2⟩ := hr1.apart_later hr2 (Nat.le_refl _)
    refine Nd.wpL_join W hgd s x ho w.heap.size _ es fs hs (hr1.below h2.bel) g fs.length c2 hx rfl hcs (fun e he => ⟨own_lift (hr2.ats e he).1 h1.bel.size, fun g' o' hl' e' => k2 e he g' o' hl' e'⟩) hr2.apart k1 (by omega) hW.bel.size ?_
    intro a' c' w' h3 h4 _
    exact h _ _ ⟨⟨_, a', c', rfl, h3, by rw [List.map_append, hm1, hm2]⟩, hW.bel.trans h4⟩

end Go.Proofs.YteninofjeidljaaGreat

namespace Go.Proofs.YteninofjeidljaaGreat

open Go.RowKit

set_option linter.unusedVariables false

set_option linter.unusedSimpArgs false

theorem Bx.drewN {wr W : World} {t : Tk} {nA c1 : Nat} {a1 : Option Addr} (h : Bx wr W t nA a1 c1) (n : Nat) : Bx wr (W.drewN n) t nA a1 c1 := ⟨below_drewN h.bel n, h.box, h.own⟩

set_option maxRecDepth 8000 in
set_option maxHeartbeats 16000000 in
theorem cCutL (A : Option Addr) (cap : Nat) (ts : List Tk) (a : Nat) (w : World) (hR : TkRow w A ts) (hT : TreeP ts) (ha : a < ts.length) (ha1 : 1 ≤ a) (hc : ts.length ≤ cap) (hcm : cap ≤ maxLen) (hz : TksSz 1048576 ts) :
    Calls Tryz.prog 85 #[.slice A ts.length cap, .int .i64 (a : Int), .int .i64 (endN ts a : Nat)] w fun e w' => ∃ v, e = .returned v ∧ RowOf w w' v (cutL ts a (endN ts a)) := by
  have HR := hid hR
  have HZ := hid hz
  have HT := hid hT
  have HA := hid ha
  have h50 : ts.length ≤ 50 := hT.2.1
  unfold maxLen at hcm
  have HB0 := hid ((Below.refl w.heap.size w).alloc (Nat.le_refl _) (.cells #[] 42))
  have M0 := hid (heap_alloc_new w (.cells #[] 42))
  have hE := endN_le ha
  obtain ⟨E, hEE⟩ : ∃ E, endN ts a = E := ⟨_, rfl⟩
  have HEE := hid hEE
  rw [hEE] at hE ⊢
  obtain ⟨R, hRR⟩ : ∃ R, cutL ts a E = R := ⟨_, rfl⟩
  have HRR := hid hRR
  rw [hRR]
  obtain ⟨n, hnn⟩ : ∃ n, ts.length = n := ⟨_, rfl⟩
  have HN := hid hnn
  rw [hnn] at ha hE h50 hc ⊢
  obtain ⟨hE1, hE2⟩ := hE
  clear hR hz hT hEE hnn hRR
  go_enter Tryz.func85, Tryz.ntmps85
  go_wp2_with fail
  go_loopw [7, 8] (fun v k wr => ∃ i : Nat, k = .int .i64 (i : Int) ∧ i ≤ n ∧ Hid (RowOf w wr v (outC ts a E i)) ∧ Hid (E < i → sideB ts a E = false)) (fun _ k _ => n - (intOf k).toNat)
  case atStart => exact ⟨0, rfl, Nat.zero_le _, by show RowOf _ _ _ _; rw [outC_zero]; exact RowOf.start HB0.out (Nat.le_refl _) M0.out, by show _ → _; omega⟩
  case round =>
    clear HB0 M0
    obtain ⟨i, rfl, hi, HX, HSD⟩ := hrel
    by_cases hlt : i < n
    · have hin : (i : Int) < (n : Int) := by omega
      have his : i < ts.length := by rw [HN.out]; exact hlt
      by_cases hmid : a ≤ i ∧ i < E
      · have g1 : (a : Int) ≤ (i : Int) := by omega
        have g2 : (i : Int) < (E : Int) := by omega
        have HX2 := hid (show RowOf w wr u7 (outC ts a E (i + 1)) by rw [outC_skip hmid.1 hmid.2]; exact HX.out)
        have HS2 := hid (show E < i + 1 → sideB ts a E = false from fun h => by omega)
        clear hmid
        go_wp2_with fail
        go_roundw
        case rel => exact ⟨i + 1, by go_num, by omega, HX2.out, HS2.out⟩
        case measure => simp [intOf]; omega
      · have HMID := hid hmid
        have HLT := hid (show (outC ts a E i).length ≤ 1048576 by rw [outC_len (by omega) (by rw [HN.out]; exact hE2) (by omega)]; omega)
        have HZT := hid (HZ.out _ (List.getElem_mem his))
        have hkb := tree_kind HT.out (seg_of his)
        have HLK := hid (low_kind HT.out his)
        have HNX := hid (show outC ts a E (i + 1) = outC ts a E i ++ [shK (cutF a E ts[i]) ts[i]] by
          by_cases hia : i < a
          · rw [outC_low (by omega) hia his]
            have hk := low_kind HT.out his
            rw [parI_at his] at hk
            unfold cutF
            rw [if_neg (by omega)]
            rfl
          · exact outC_high (by omega) (by omega) his)
        have HNJ := hid (fun (t0 : Tk) (h0 : (outC ts a E i)[(outC ts a E i).length - 1]? = some t0) (hp : 0 < i) (hx : i < a ∨ E < i) => no_join (a := a) HT.out HA.out ha1 his hp (by rw [HEE.out]; exact hx) (t := t0) (by rw [HEE.out]; exact h0))
        rw [HEE.out] at HNJ
        have HLS := hid (fun (hp : 0 < i) => outC_last (ts := ts) (a := a) (e := E) (i := i) (by omega) (by rw [HN.out]; exact hE2) ha1 his hp (by omega))
        have HTI := hid (seg_of his)
        rw [parI_at his] at HLK
        obtain ⟨b, o, aa, ca, e', hb, q0, q1, q2, q3, hA⟩ := (HR.out.below HX.out.bel) i his
        subst e'
        have HAT := hid hA
        obtain ⟨t, ht⟩ : ∃ t, ts[i] = t := ⟨_, rfl⟩
        rw [ht] at q0 q1 q2 q3 HAT HZT HNX hkb HLK HNJ HTI
        clear ht hA hmid his
        obtain ⟨nA, hnA⟩ : ∃ nA, t.attrs.length = nA := ⟨_, rfl⟩
        have HNA := hid hnA
        rw [hnA] at q2
        clear hnA
        have HL1 := hid ((Below.refl wr.heap.size wr).alloc (Nat.le_refl _) (.cells #[.int .i64 t.kind, .string t.name, .slice aa nA ca, .string t.text] 42))
        have CC := hid (fun wx (h : AtRow wx aa t.attrs) => cCopyS aa ca t.attrs wx h HZT.out.2.1)
        rw [HNA.out] at CC
        obtain ⟨K, hK⟩ : ∃ K, t.kind = K := ⟨_, rfl⟩
        have HKK := hid hK
        rw [hK] at q0 hkb HL1
        obtain ⟨hk1, hk2⟩ := hkb
        clear hK
        go_upto_region 5 with fail
        go_cut [29] from 22 to 28 (fun v wv => v = .bool false ∧ Hid (wr = wv))
        case first =>
          by_cases hia : i < a
          · have g1 : ¬ (a : Int) ≤ (i : Int) := by omega
            go_wp2_with fail
            go_meet
            exact ⟨rfl, rfl⟩
          · have g1 : (a : Int) ≤ (i : Int) := by omega
            have g2 : ¬ (i : Int) < (E : Int) := by have := HMID.out; omega
            go_wp2_with fail
            go_meet
            exact ⟨rfl, rfl⟩
        obtain ⟨rfl, HWC⟩ := hcut
        have hwc := HWC.out
        subst hwc
        clear HWC
        go_wp2_with fail
        refine (CC.out _ (HAT.out.below HL1.out)).mono ?_
        rintro e w2 ⟨a1, c1, rfl, ha1', hb2⟩
        have HBX := hid (Bx.made (c1 := c1) (t := t) (nA := nA) (aa := aa) (ca := ca) (a1 := a1) (w2 := w2) (by rw [HKK.out]; simpa using hb2) (by simpa using ha1'))
        have M2 := hid (blk_below (heap_alloc_new _ _) hb2)
        obtain ⟨⟨x0, x1, x2, x3⟩, f0, f1, f2, f3⟩ := box4 M2.out
        clear ha1' hb2 CC HL1 q0 q1 q2 q3 hb M2
        obtain ⟨w3, hw3⟩ : ∃ w3, w2.setCell ⟨wr.heap.size, 2, none⟩ (.slice a1 nA c1) = w3 := ⟨_, rfl⟩
        rw [hw3] at HBX
        obtain ⟨⟨y0, y1, y2, y3⟩, g0, g1, g2, g3⟩ := box4 HBX.out.box
        rw [HKK.out] at y0
        obtain ⟨GE, hGE⟩ : ∃ GE : Bool, decide ((E : Int) ≤ K) = GE := ⟨_, rfl⟩
        go_upto_if 41 with fail
        go_cut [42] from 43 to 48 (fun _ wv => Hid (Bx wr wv (shK (cutF a E t) t) nA a1 c1))
        case first =>
          have HGE := hid hGE
          clear hGE
          cases GE with
          | true =>
            have HBX4 := hid (HBX.out.kind (K - ((E : Int) - (a : Int))))
            have HCF := hid (show cutF a E t = K - ((E : Int) - (a : Int)) by unfold cutF; rw [HKK.out, if_pos (of_decide_eq_true HGE.out)])
            go_wp2_with fail
            go_meet
            rw [HCF.out]
            exact HBX4.out
          | false =>
            have HCF := hid (show cutF a E t = K by unfold cutF; rw [HKK.out, if_neg (of_decide_eq_false HGE.out)])
            have HBX4 := hid (show Bx wr w3 (shK K t) nA a1 c1 by rw [show shK K t = t by rw [← HKK.out]; rfl]; exact HBX.out)
            go_wp2_with fail
            go_meet
            rw [HCF.out]
            exact HBX4.out
        have HBY := hid hcut.out
        clear hcut HBX x0 x1 x2 x3 y0 y1 y2 y3 g0 g1 g2 g3 f0 f1 f2 f3 hw3 hGE
        obtain ⟨L, hL⟩ : ∃ L, outC ts a E i = L := ⟨_, rfl⟩
        have HL := hid hL
        rw [hL] at HX HLT HNX HNJ HLS
        clear hL
        obtain ⟨a8, c8, hv, htk8⟩ := HX.out.tk
        subst hv
        obtain ⟨m, hm⟩ : ∃ m, L.length = m := ⟨_, rfl⟩
        have HM := hid hm
        rw [hm] at HX HNJ HLS HLT ⊢
        clear hm htk8
        obtain ⟨C, hC⟩ : ∃ C, cutF a E t = C := ⟨_, rfl⟩
        have HC := hid hC
        rw [hC] at HBY HNX HNJ
        clear hC
        obtain ⟨M, hMd⟩ : ∃ M : Bool, M = true ↔ (0 < m ∧ ∃ t0, L[m - 1]? = some t0 ∧ t.name.size = 0 ∧ t0.name.size = 0 ∧ t0.kind = C) := by
          by_cases h : (0 < m ∧ ∃ t0, L[m - 1]? = some t0 ∧ t.name.size = 0 ∧ t0.name.size = 0 ∧ t0.kind = C)
          · exact ⟨true, ⟨fun _ => h, fun _ => rfl⟩⟩
          · exact ⟨false, ⟨fun h' => (by cases h'), fun h' => absurd h' h⟩⟩
        have HMD := hid hMd
        clear hMd
        have E1 := empty_is t.name
        obtain ⟨D1, hD1⟩ : ∃ D1 : Bool, decide (t.name.size = 0) = D1 := ⟨_, rfl⟩
        have HD1 := hid hD1
        rw [hD1] at E1
        clear hD1
        go_upto_region 11 with fail
        go_cut [77] from 51 to 76 (fun v wv => v = .bool M ∧ Hid (Bx wr wv (shK C t) nA a1 c1))
        case first =>
          obtain ⟨⟨y0, y1, y2, y3⟩, g0, g1, g2, g3⟩ := box4 HBY.out.box
          have y0' : wc.cell? ⟨wr.heap.size, 0, none⟩ = some (.int .i64 C) := y0
          have y1' : wc.cell? ⟨wr.heap.size, 1, none⟩ = some (.string t.name) := y1
          clear y0 y1 y2 y3 g0 g1 g2 g3
          by_cases hm0 : m = 0
          · subst hm0
            have HMF := hid (show M = false by
              cases M with
              | false => rfl
              | true => exact absurd (HMD.out.1 rfl).1 (by omega))
            cases D1 with
            | false =>
              go_quiet (fail)
              go_wp2_with fail
              go_meet
              exact ⟨by rw [HMF.out], HBY.out.drewN _⟩
            | true =>
              go_quiet (fail)
              go_wp2_with fail
              go_meet
              exact ⟨by rw [HMF.out], HBY.out.drewN _⟩
          · obtain ⟨q, rfl⟩ : ∃ q, m = q + 1 := ⟨m - 1, by omega⟩
            clear hm0
            have hql : q < L.length := by rw [HM.out]; exact Nat.lt_succ_self _
            have HXC := hid (HX.out.below HBY.out.bel)
            obtain ⟨t0, ht0⟩ : ∃ t0, L[q]? = some t0 := ⟨L[q], List.getElem?_eq_getElem hql⟩
            obtain ⟨g, c, hv, hg, ⟨ab, cb, d0, d1, d2, d3⟩, hfz, _, _⟩ := HXC.out.put ht0
            obtain ⟨rfl, rfl⟩ : a8 = some ⟨g, 0, none⟩ ∧ c8 = c := by injection hv with h1 h2 h3; exact ⟨h1, h3⟩
            have HT0 := hid ht0
            clear hv d2 d3 hfz ht0 hql
            have E2 := empty_is t0.name
            obtain ⟨D2, hD2⟩ : ∃ D2 : Bool, decide (t0.name.size = 0) = D2 := ⟨_, rfl⟩
            have HD2 := hid hD2
            rw [hD2] at E2
            clear hD2
            obtain ⟨D3, hD3⟩ : ∃ D3 : Bool, (t0.kind == C) = D3 := ⟨_, rfl⟩
            have HD3 := hid hD3
            have HMV := hid (show M = (D1 && (D2 && D3)) by
              rw [Bool.eq_iff_iff, HMD.out, ← HD1.out, ← HD2.out, ← HD3.out]
              simp only [Bool.and_eq_true, decide_eq_true_eq, beq_iff_eq]
              constructor
              · rintro ⟨_, t1, k1, k2, k3, k4⟩
                rw [show q + 1 - 1 = q from rfl, HT0.out] at k1
                cases k1
                exact ⟨k2, k3, k4⟩
              · rintro ⟨k2, k3, k4⟩
                exact ⟨Nat.succ_pos _, t0, HT0.out, k2, k3, k4⟩)
            obtain ⟨K0, hK0⟩ : ∃ K0, t0.kind = K0 := ⟨_, rfl⟩
            rw [hK0] at d0 hD3
            obtain ⟨N0, hN0⟩ : ∃ N0, t0.name = N0 := ⟨_, rfl⟩
            rw [hN0] at d1 E2
            clear hK0 hN0 HD3 HD2
            have hq1 : (q : Int) < (q : Int) + 1 := by omega
            have hq0 : decide ((0 : Int) < (q : Int) + 1) = true := decide_eq_true (by omega)
            have hq50 : q ≤ 1048576 := by have := HLT.out; omega
            cases D1 with
            | false =>
              go_quiet (fail)
              go_wp2_with fail
              go_meet
              exact ⟨by rw [HMV.out]; rfl, HBY.out.drewN _⟩
            | true =>
              cases D2 with
              | false =>
                go_quiet (fail)
                go_wp2_with fail
                go_meet
                exact ⟨by rw [HMV.out]; rfl, HBY.out.drewN _⟩
              | true =>
                go_quiet (fail)
                go_wp2_with fail
                go_meet
                exact ⟨by rw [HMV.out]; rfl, HBY.out.drewN _⟩
        obtain ⟨rfl, HBZ⟩ := hcut
        clear HBY
        cases M with
        | false =>
          have HS2 := hid (show E < i + 1 → sideB ts a E = false from fun h => by
            by_cases hEi : E < i
            · exact HSD.out hEi
            · have hie : i = E := by omega
              have hp : 0 < i := by omega
              obtain ⟨t0, k1, _, k3, _⟩ := HLS.out hp
              have hm0 : 0 < m := by
                have h1 := HM.out
                rw [← HL.out, outC_len (by omega) (by rw [HN.out]; exact hE2) (by rw [HN.out]; omega)] at h1
                omega
              unfold sideB
              rw [k3 hie, ← hie, HTI.out]
              simp only
              cases hsd : (decide (t.name.size = 0) && (decide (t0.name.size = 0) && decide (t0.kind = cutF a i t))) with
              | false => rfl
              | true =>
                simp only [Bool.and_eq_true, decide_eq_true_eq] at hsd
                have := HMD.out.2 ⟨hm0, t0, k1, hsd.1, hsd.2.1, by rw [hsd.2.2, hie]; exact HC.out⟩
                cases this)
          obtain ⟨⟨y0, y1, y2, y3⟩, _⟩ := box4 HBZ.out.box
          go_wp2_with (at_builtin; refine wpL_bx w wr _ rfl _ _ rfl (.slice a8 m c8) L rfl HX.out (shK C t) a1 c1 nA rfl HNA.out HBZ.out (by rw [HM.out]; exact HLT.out) ?_)
          intro v6 w6 hr6
          have HR6 := hid hr6
          rw [← HNX.out] at HR6
          clear hr6 y0 y1 y2 y3
          go_wp2_with fail
          go_roundw
          case rel => exact ⟨i + 1, by go_num, by omega, HR6.out, HS2.out⟩
          case measure => simp [intOf]; omega
        | true =>
          obtain ⟨hm0, t0, ht0, k1, k2, k3⟩ := HMD.out.1 rfl
          have hp : 0 < i := by
            rcases Nat.eq_zero_or_pos i with h | h
            · exfalso
              have h1 := HM.out
              rw [← HL.out, h, outC_zero] at h1
              simp at h1
              omega
            · exact h
          have hiE : i = E := by
            by_cases hx : i < a ∨ E < i
            · exact absurd ⟨k1, k2, k3⟩ (HNJ.out t0 ht0 hp hx)
            · have := HMID.out; omega
          obtain ⟨t0', j1, _, j3, _⟩ := HLS.out hp
          have e0 : t0 = t0' := Option.some.inj (ht0.symm.trans j1)
          have HTA := hid (show ts[a - 1]? = some t0 by rw [e0]; exact j3 hiE)
          have HSB := hid (show sideB ts a E = true by
            unfold sideB
            rw [HTA.out, ← hiE, HTI.out]
            simp only [Bool.and_eq_true, decide_eq_true_eq]
            exact ⟨k1, k2, by rw [k3, hiE]; exact HC.out.symm⟩)
          have HRJ := hid (show R = joinC ts a E t0 t by rw [← HRR.out]; exact cutL_yes HSB.out HTA.out (by rw [← hiE]; exact HTI.out))
          have HLA := hid (show L = ts.take a by
            rw [← HL.out, hiE]
            unfold outC
            rw [Nat.min_eq_right (by omega), Nat.sub_self]
            show _ ++ [] = _
            rw [List.append_nil])
          have hma : m = a := by
            have h1 := HM.out
            rw [HLA.out, List.length_take, HN.out] at h1
            omega
          have htx : ¬ 9223372036854775807 < t0.text.size + t.text.size := by
            have h1 := (HZ.out t0 (List.mem_of_getElem? HTA.out)).2.2.2
            have h2 := HZT.out.2.2.2
            omega
          subst hiE
          obtain ⟨q, hq⟩ : ∃ q, m = q + 1 := ⟨m - 1, by omega⟩
          have HQ := hid (show q = a - 1 by omega)
          have HXC := hid (show RowOf w wc.drew (.slice a8 m c8) L from (HX.out.below HBZ.out.bel).below (below_drewN (Below.refl _ _) 1))
          have ht0q : L[q]? = some t0 := by rw [show q = m - 1 by omega]; exact ht0
          obtain ⟨g, c, hv, hg, ⟨ab, cb, d0, d1, d2, d3⟩, hfz, _, hset⟩ := HXC.out.put ht0q
          obtain ⟨rfl, rfl⟩ : a8 = some ⟨g, 0, none⟩ ∧ c8 = c := by injection hv with h1 h2 h3; exact ⟨h1, h3⟩
          obtain ⟨⟨y0, y1, y2, y3⟩, _⟩ := box4 HBZ.out.box
          have HSET := hid (hset (t0.text ++ t.text))
          have hq50 : q ≤ 100 := by omega
          have hq1 : (q : Int) < (q : Int) + 1 := by omega
          have hwq : IntKind.i64.wrap (q : Int) = (q : Int) := IntWalk.i64_in _ (by omega)
          subst hq
          clear hm0 ht0 k1 k2 k3 hp e0 j1 j3 hma ht0q hv hset hg d0 d1 d2 y0 y1 y2
          go_wp2_with fail
          refine wp_region_held_drew (S := fun _ => True) (by kernel_rfl) trivial (fun _ => ?_)
          have D3 := hid (show wc.drew.cell? ⟨g, q * 4 + 3, none⟩ = some (.string t0.text) from d3)
          have Y3 := hid (show wc.drew.cell? ⟨wr.heap.size, 3, none⟩ = some (.string t.text) from y3)
          have F3 := hid (show wc.drew.frozen? ⟨g, q * 4 + 3, none⟩ = false from hfz _)
          have HXD := hid (show RowOf w (wc.drew.setCell ⟨g, q * 4 + 3, none⟩ (.string (t0.text ++ t.text))) (.slice (some ⟨g, 0, none⟩) (q + 1) c8) (L.set q ⟨t0.kind, t0.name, t0.attrs, t0.text ++ t.text⟩) from HSET.out)
          generalize wc.drew = W at *
          refine wpAnyH_take (i := 0) (v := ?_) rfl (by kernel_rfl) (by kernel_rfl) (by kernel_rfl) (fun _ _ _ h => h) (Or.inl ⟨by rfl, ?_⟩) trivial ?_
          rotate_left
          · intro w hSw
            go_simp
            try (with_reducible rfl)
          try simp only [Act.put, List.setIfInBounds_toArray, List.set_cons_zero, List.set_cons_succ]
          refine wpAnyH_take (i := 1) (v := ?_) rfl (by kernel_rfl) (by kernel_rfl) (by kernel_rfl) (fun _ _ _ h => h) (Or.inl ⟨by rfl, ?_⟩) trivial ?_
          rotate_left
          · intro w hSw
            go_simp
            try (with_reducible rfl)
          try simp only [Act.put, List.setIfInBounds_toArray, List.set_cons_zero, List.set_cons_succ]
          refine wpAnyH_take (i := 2) (v := ?_) rfl (by kernel_rfl) (by kernel_rfl) (by kernel_rfl) (fun _ _ _ h => h) (Or.inl ⟨by rfl, ?_⟩) trivial ?_
          rotate_left
          · intro w hSw
            go_simp
            try (with_reducible rfl)
          try simp only [Act.put, List.setIfInBounds_toArray, List.set_cons_zero, List.set_cons_succ]
          refine wpAnyH_take (i := 3) (v := ?_) rfl (by kernel_rfl) (by kernel_rfl) (by kernel_rfl) (fun _ _ _ h => h) (Or.inl ⟨by rfl, ?_⟩) trivial ?_
          rotate_left
          · intro w hSw
            go_simp
            try (with_reducible rfl)
          try simp only [Act.put, List.setIfInBounds_toArray, List.set_cons_zero, List.set_cons_succ]
          refine wpAnyH_take (i := 4) (v := ?_) rfl (by kernel_rfl) (by kernel_rfl) (by kernel_rfl) (fun _ _ _ h => h) (Or.inl ⟨by rfl, ?_⟩) trivial ?_
          rotate_left
          · intro w hSw
            go_simp
            try (with_reducible rfl)
          try simp only [Act.put, List.setIfInBounds_toArray, List.set_cons_zero, List.set_cons_succ]
          refine wpAnyH_take (i := 5) (v := ?_) rfl (by kernel_rfl) (by kernel_rfl) (by kernel_rfl) (fun _ _ _ h => h) (Or.inl ⟨by rfl, ?_⟩) trivial ?_
          rotate_left
          · intro w hSw
            go_simp
            try (with_reducible rfl)
          try simp only [Act.put, List.setIfInBounds_toArray, List.set_cons_zero, List.set_cons_succ]
          refine wpAnyH_take (i := 6) (v := ?_) rfl (by kernel_rfl) (by kernel_rfl) (by kernel_rfl) (fun _ _ _ h => h) (Or.inl ⟨by rfl, ?_⟩) trivial ?_
          rotate_left
          · intro w hSw
            go_simp
            try (with_reducible rfl)
          try simp only [Act.put, List.setIfInBounds_toArray, List.set_cons_zero, List.set_cons_succ]
          refine wpAnyH_take (i := 7) (v := ?_) rfl (by kernel_rfl) (by kernel_rfl) (by kernel_rfl) (fun _ _ _ h => h) (Or.inl ⟨by rfl, ?_⟩) trivial ?_
          rotate_left
          · intro w hSw
            go_simp
            try (with_reducible rfl)
          try simp only [Act.put, List.setIfInBounds_toArray, List.set_cons_zero, List.set_cons_succ]
          refine wpAnyH_take (i := 9) (v := ?_) rfl (by kernel_rfl) (by kernel_rfl) (by kernel_rfl) (fun _ _ _ h => h) (Or.inl ⟨by rfl, ?_⟩) trivial ?_
          rotate_left
          · intro w hSw
            go_simp
            try (with_reducible rfl)
          try simp only [Act.put, List.setIfInBounds_toArray, List.set_cons_zero, List.set_cons_succ]
          refine wpAnyH_ready (rs := [8, 10]) (by kernel_rfl) (by simp) (AllReadyH.cons rfl (fun K hK => ?_) (AllReadyH.cons rfl (fun K hK => ?_) AllReadyH.nil))
          · have d3 := D3.out
            go_simp
            refine hK.out _ _ trivial (fun _ => ?_)
            clear hK K
            try simp only [Act.put, List.setIfInBounds_toArray, List.set_cons_zero, List.set_cons_succ]
            clear d3
            refine wpAnyH_ready (rs := [10]) (by kernel_rfl) (by simp) (AllReadyH.cons rfl (fun K hK => ?_) AllReadyH.nil)
            · have y3 := Y3.out
              go_simp
              refine hK.out _ _ trivial (fun _ => ?_)
              clear hK K
              try simp only [Act.put, List.setIfInBounds_toArray, List.set_cons_zero, List.set_cons_succ]
              clear y3
              refine wpAnyH_take (i := 11) (v := ?_) rfl (by kernel_rfl) (by kernel_rfl) (by kernel_rfl) (fun _ _ _ h => h) (Or.inl ⟨by rfl, ?_⟩) trivial ?_
              rotate_left
              · intro w hSw
                go_simp
                try (with_reducible rfl)
              try simp only [Act.put, List.setIfInBounds_toArray, List.set_cons_zero, List.set_cons_succ]
              refine wpAnyH_take (i := 12) (v := ?_) rfl (by kernel_rfl) (by kernel_rfl) (by kernel_rfl) (fun _ _ _ h => h) (Or.inl ⟨by rfl, ?_⟩) trivial ?_
              rotate_left
              · intro w hSw
                go_simp
                try (with_reducible rfl)
              try simp only [Act.put, List.setIfInBounds_toArray, List.set_cons_zero, List.set_cons_succ]
              refine wpAnyH_take (i := 13) (v := ?_) rfl (by kernel_rfl) (by kernel_rfl) (by kernel_rfl) (fun _ _ _ h => h) (Or.inl ⟨by rfl, ?_⟩) trivial ?_
              rotate_left
              · intro w hSw
                go_simp
                try (with_reducible rfl)
              try simp only [Act.put, List.setIfInBounds_toArray, List.set_cons_zero, List.set_cons_succ]
              refine wpAnyH_ready (rs := [14]) (by kernel_rfl) (by simp) (AllReadyH.cons rfl (fun K hK => ?_) AllReadyH.nil)
              · have d3 := D3.out
                have f3 := F3.out
                go_simp
                refine hK.out _ _ trivial (fun _ => ?_)
                clear hK K
                try simp only [Act.put, List.setIfInBounds_toArray, List.set_cons_zero, List.set_cons_succ]
                clear d3 f3
                refine wpAnyH_done (by kernel_rfl) ?_ _
                have HX5 := HXD
                generalize W.setCell ⟨g, q * 4 + 3, none⟩ (.string (t0.text ++ t.text)) = w5 at *
                have HR5 := hid (HR.out.below HX5.out.bel)
                have hsl : ∀ W, (Instr.slice 24 (.slice (some ⟨b, o, none⟩) n cap) (some (.int .i64 ((i : Int) + 1))) none none).run Tryz.prog W = .ok (.slice (some (if cap = i + 1 then ⟨b, o, none⟩ else ⟨b, o + (i + 1) * 4, none⟩)) (n - (i + 1)) (cap - (i + 1))) W := fun W => by
                  have h := sl_from b o n cap (i + 1) (by omega) hc W
                  rw [show ((i + 1 : Nat) : Int) = (i : Int) + 1 by omega] at h
                  exact h
                have HRD := hid (tk_from (k := i + 1) HR5.out (cap := cap) (by rw [HN.out]; exact hc))
                generalize (if cap = i + 1 then (⟨b, o, none⟩ : Addr) else ⟨b, o + (i + 1) * 4, none⟩) = AD at *
                obtain ⟨d, hd⟩ : ∃ d, n - (i + 1) = d := ⟨_, rfl⟩
                have HD := hid hd
                rw [hd] at hsl
                have hd50 : d ≤ 50 := by omega
                clear hd HXD D3 Y3 F3
                go_wp2_with (at_builtin; refine wpL_fresh w5 rfl _ _ rfl rfl (some AD) (ts.drop (i + 1)) d (cap - (i + 1)) (by rw [List.length_drop, HN.out]; exact HD.out) rfl HRD.out (by omega) ?_)
                intro a11 c11 w6 ht6 hb6
                have HT6 := hid ht6
                have HX6 := hid (HX5.out.below hb6)
                clear ht6 hb6 HX5 hsl
                have HM6 := hid (RowOf.start ((Below.refl w6.heap.size w6).alloc (Nat.le_refl _) (.cells #[] 42)) (Nat.le_refl _) (heap_alloc_new w6 (.cells #[] 42)))
                go_wp2_with fail
                go_loopw [12, 13] (fun v k wr2 => ∃ j : Nat, k = .int .i64 (j : Int) ∧ j ≤ d ∧ Hid (RowOf w6 wr2 v (segN (fun _ r => if (i : Int) < r.kind then r.kind - ((i : Int) - (a : Int)) - 1 else r.kind) ts (i + 1) j))) (fun _ k _ => d - (intOf k).toNat)
                case atStart => exact ⟨0, rfl, Nat.zero_le _, HM6.out⟩
                case round =>
                  clear HM6
                  obtain ⟨j, rfl, hj, HY⟩ := hrel
                  by_cases hjl : j < d
                  · have hjD : j < (ts.drop (i + 1)).length := by rw [List.length_drop, HN.out, HD.out]; exact hjl
                    have hij : i + 1 + j < ts.length := by have := HN.out; have := HD.out; omega
                    have hjn : (j : Int) < (d : Int) := by omega
                    have HTS := hid (segN_next (f := fun _ r => if (i : Int) < r.kind then r.kind - ((i : Int) - (a : Int)) - 1 else r.kind) (ts := ts) (k := i + 1) (m := j) (t := ts[i + 1 + j]) (seg_of hij))
                    have HLY := hid (show (segN (fun _ r => if (i : Int) < r.kind then r.kind - ((i : Int) - (a : Int)) - 1 else r.kind) ts (i + 1) j).length ≤ 1048576 by rw [segN_len j (by omega)]; omega)
                    have hrb := tree_kind HT.out (seg_of hij)
                    have HZR := hid (HZ.out _ (List.getElem_mem hij))
                    obtain ⟨br, orr, ar, cr, er, hbr, p0, p1, p2, p3, hAr⟩ := (HT6.out.below HY.out.bel) j hjD
                    subst er
                    rw [List.getElem_drop] at p0 p1 p2 p3 hAr
                    have HAR := hid hAr
                    obtain ⟨r, hr⟩ : ∃ r, ts[i + 1 + j] = r := ⟨_, rfl⟩
                    rw [hr] at p0 p1 p2 p3 HAR HZR HTS hrb
                    clear hr hAr hjD hij
                    obtain ⟨nR, hnR⟩ : ∃ nR, r.attrs.length = nR := ⟨_, rfl⟩
                    have HNR := hid hnR
                    rw [hnR] at p2
                    clear hnR
                    have HLR := hid ((Below.refl wr.heap.size wr).alloc (Nat.le_refl _) (.cells #[.int .i64 r.kind, .string r.name, .slice ar nR cr, .string r.text] 42))
                    have CR := hid (fun wx (h : AtRow wx ar r.attrs) => cCopyS ar cr r.attrs wx h HZR.out.2.1)
                    rw [HNR.out] at CR
                    obtain ⟨KR, hKR⟩ : ∃ KR, r.kind = KR := ⟨_, rfl⟩
                    have HKR := hid hKR
                    rw [hKR] at p0 hrb HLR
                    obtain ⟨hr1, hr2⟩ := hrb
                    clear hKR
                    go_wp2_with fail
                    refine (CR.out _ (HAR.out.below HLR.out)).mono ?_
                    rintro e w7 ⟨a7, c7, rfl, ha7, hb7⟩
                    have HBR := hid (Bx.made (c1 := c7) (t := r) (nA := nR) (aa := ar) (ca := cr) (a1 := a7) (w2 := w7) (by rw [HKR.out]; simpa using hb7) (by simpa using ha7))
                    have M7 := hid (blk_below (heap_alloc_new _ _) hb7)
                    obtain ⟨⟨x0, x1, x2, x3⟩, f0, f1, f2, f3⟩ := box4 M7.out
                    clear ha7 hb7 CR HLR p0 p1 p2 p3 hbr M7
                    obtain ⟨w8, hw8⟩ : ∃ w8, w7.setCell ⟨wr.heap.size, 2, none⟩ (.slice a7 nR c7) = w8 := ⟨_, rfl⟩
                    rw [hw8] at HBR
                    obtain ⟨⟨z0, z1, z2, z3⟩, g0, g1, g2, g3⟩ := box4 HBR.out.box
                    rw [HKR.out] at z0
                    by_cases hge : (i : Int) < KR
                    · have HBS := hid (HBR.out.kind (KR - ((i : Int) - (a : Int)) - 1))
                      obtain ⟨w9, hw9⟩ : ∃ w9, w8.setCell ⟨wr.heap.size, 0, none⟩ (.int .i64 (KR - ((i : Int) - (a : Int)) - 1)) = w9 := ⟨_, rfl⟩
                      rw [hw9] at HBS
                      obtain ⟨⟨s0, s1, s2, s3⟩, _⟩ := box4 HBS.out.box
                      have HFN := hid (show shK (KR - ((i : Int) - (a : Int)) - 1) r = shK (if (i : Int) < r.kind then r.kind - ((i : Int) - (a : Int)) - 1 else r.kind) r by rw [HKR.out, if_pos hge])
                      have hgd : decide ((i : Int) < KR) = true := decide_eq_true hge
                      go_wp2_with (at_builtin; refine wpL_bx w6 wr w9 rfl _ _ rfl u12 _ rfl HY.out (shK (KR - ((i : Int) - (a : Int)) - 1) r) a7 c7 nR rfl HNR.out HBS.out HLY.out ?_)
                      intro v10 w10 hr10
                      have HR10 := hid hr10
                      rw [HFN.out, ← HTS.out] at HR10
                      clear hr10 x0 x1 x2 x3 z0 z1 z2 z3 s0 s1 s2 s3 hw8 hw9
                      go_wp2_with fail
                      go_roundw
                      case rel => exact ⟨j + 1, by go_num, by omega, HR10.out⟩
                      case measure => simp [intOf]; omega
                    · have HBS := hid (show Bx wr w8 (shK KR r) nR a7 c7 by rw [show shK KR r = r by rw [← HKR.out]; rfl]; exact HBR.out)
                      have HFN := hid (show shK KR r = shK (if (i : Int) < r.kind then r.kind - ((i : Int) - (a : Int)) - 1 else r.kind) r by rw [HKR.out, if_neg hge])
                      have hgd : decide ((i : Int) < KR) = false := decide_eq_false hge
                      go_wp2_with (at_builtin; refine wpL_bx w6 wr w8 rfl _ _ rfl u12 _ rfl HY.out (shK KR r) a7 c7 nR rfl HNR.out HBS.out HLY.out ?_)
                      intro v10 w10 hr10
                      have HR10 := hid hr10
                      rw [HFN.out, ← HTS.out] at HR10
                      clear hr10 x0 x1 x2 x3 z0 z1 z2 z3 hw8
                      go_wp2_with fail
                      go_roundw
                      case rel => exact ⟨j + 1, by go_num, by omega, HR10.out⟩
                      case measure => simp [intOf]; omega
                  · have hjd : j = d := by omega
                    have HJN := hid (show R = L.set q ⟨t0.kind, t0.name, t0.attrs, t0.text ++ t.text⟩ ++ segN (fun _ r => if (i : Int) < r.kind then r.kind - ((i : Int) - (a : Int)) - 1 else r.kind) ts (i + 1) j by
                      rw [HRJ.out, HLA.out, HQ.out]
                      unfold joinC
                      rw [HN.out, HD.out, hjd])
                    have HLN := hid (show (L.set q ⟨t0.kind, t0.name, t0.attrs, t0.text ++ t.text⟩).length + (segN (fun _ r => if (i : Int) < r.kind then r.kind - ((i : Int) - (a : Int)) - 1 else r.kind) ts (i + 1) j).length ≤ 2097152 by
                      rw [List.length_set, HM.out, segN_len j (by rw [HN.out]; have := HD.out; omega)]
                      omega)
                    have hjdn : ¬ (j : Int) < (d : Int) := by omega
                    clear hjd
                    go_wp2_with (at_builtin; refine wpL_two w w6 _ rfl _ _ rfl (.slice (some ⟨g, 0, none⟩) (q + 1) c8) u12 _ _ rfl rfl HX6.out HY.out HLN.out ?_)
                    intro v11 w11 hr11
                    have HR11 := hid hr11
                    rw [← HJN.out] at HR11
                    clear hr11
                    go_wp2_with fail
                    go_ret
                    exact ⟨_, rfl, HR11.out⟩
          · have y3 := Y3.out
            go_simp
            refine hK.out _ _ trivial (fun _ => ?_)
            clear hK K
            try simp only [Act.put, List.setIfInBounds_toArray, List.set_cons_zero, List.set_cons_succ]
            clear y3
            refine wpAnyH_ready (rs := [8]) (by kernel_rfl) (by simp) (AllReadyH.cons rfl (fun K hK => ?_) AllReadyH.nil)
            · have d3 := D3.out
              go_simp
              refine hK.out _ _ trivial (fun _ => ?_)
              clear hK K
              try simp only [Act.put, List.setIfInBounds_toArray, List.set_cons_zero, List.set_cons_succ]
              clear d3
              refine wpAnyH_take (i := 11) (v := ?_) rfl (by kernel_rfl) (by kernel_rfl) (by kernel_rfl) (fun _ _ _ h => h) (Or.inl ⟨by rfl, ?_⟩) trivial ?_
              rotate_left
              · intro w hSw
                go_simp
                try (with_reducible rfl)
              try simp only [Act.put, List.setIfInBounds_toArray, List.set_cons_zero, List.set_cons_succ]
              refine wpAnyH_take (i := 12) (v := ?_) rfl (by kernel_rfl) (by kernel_rfl) (by kernel_rfl) (fun _ _ _ h => h) (Or.inl ⟨by rfl, ?_⟩) trivial ?_
              rotate_left
              · intro w hSw
                go_simp
                try (with_reducible rfl)
              try simp only [Act.put, List.setIfInBounds_toArray, List.set_cons_zero, List.set_cons_succ]
              refine wpAnyH_take (i := 13) (v := ?_) rfl (by kernel_rfl) (by kernel_rfl) (by kernel_rfl) (fun _ _ _ h => h) (Or.inl ⟨by rfl, ?_⟩) trivial ?_
              rotate_left
              · intro w hSw
                go_simp
                try (with_reducible rfl)
              try simp only [Act.put, List.setIfInBounds_toArray, List.set_cons_zero, List.set_cons_succ]
              refine wpAnyH_ready (rs := [14]) (by kernel_rfl) (by simp) (AllReadyH.cons rfl (fun K hK => ?_) AllReadyH.nil)
              · have d3 := D3.out
                have f3 := F3.out
                go_simp
                refine hK.out _ _ trivial (fun _ => ?_)
                clear hK K
                try simp only [Act.put, List.setIfInBounds_toArray, List.set_cons_zero, List.set_cons_succ]
                clear d3 f3
                refine wpAnyH_done (by kernel_rfl) ?_ _
                have HX5 := HXD
                generalize W.setCell ⟨g, q * 4 + 3, none⟩ (.string (t0.text ++ t.text)) = w5 at *
                have HR5 := hid (HR.out.below HX5.out.bel)
                have hsl : ∀ W, (Instr.slice 24 (.slice (some ⟨b, o, none⟩) n cap) (some (.int .i64 ((i : Int) + 1))) none none).run Tryz.prog W = .ok (.slice (some (if cap = i + 1 then ⟨b, o, none⟩ else ⟨b, o + (i + 1) * 4, none⟩)) (n - (i + 1)) (cap - (i + 1))) W := fun W => by
                  have h := sl_from b o n cap (i + 1) (by omega) hc W
                  rw [show ((i + 1 : Nat) : Int) = (i : Int) + 1 by omega] at h
                  exact h
                have HRD := hid (tk_from (k := i + 1) HR5.out (cap := cap) (by rw [HN.out]; exact hc))
                generalize (if cap = i + 1 then (⟨b, o, none⟩ : Addr) else ⟨b, o + (i + 1) * 4, none⟩) = AD at *
                obtain ⟨d, hd⟩ : ∃ d, n - (i + 1) = d := ⟨_, rfl⟩
                have HD := hid hd
                rw [hd] at hsl
                have hd50 : d ≤ 50 := by omega
                clear hd HXD D3 Y3 F3
                go_wp2_with (at_builtin; refine wpL_fresh w5 rfl _ _ rfl rfl (some AD) (ts.drop (i + 1)) d (cap - (i + 1)) (by rw [List.length_drop, HN.out]; exact HD.out) rfl HRD.out (by omega) ?_)
                intro a11 c11 w6 ht6 hb6
                have HT6 := hid ht6
                have HX6 := hid (HX5.out.below hb6)
                clear ht6 hb6 HX5 hsl
                have HM6 := hid (RowOf.start ((Below.refl w6.heap.size w6).alloc (Nat.le_refl _) (.cells #[] 42)) (Nat.le_refl _) (heap_alloc_new w6 (.cells #[] 42)))
                go_wp2_with fail
                go_loopw [12, 13] (fun v k wr2 => ∃ j : Nat, k = .int .i64 (j : Int) ∧ j ≤ d ∧ Hid (RowOf w6 wr2 v (segN (fun _ r => if (i : Int) < r.kind then r.kind - ((i : Int) - (a : Int)) - 1 else r.kind) ts (i + 1) j))) (fun _ k _ => d - (intOf k).toNat)
                case atStart => exact ⟨0, rfl, Nat.zero_le _, HM6.out⟩
                case round =>
                  clear HM6
                  obtain ⟨j, rfl, hj, HY⟩ := hrel
                  by_cases hjl : j < d
                  · have hjD : j < (ts.drop (i + 1)).length := by rw [List.length_drop, HN.out, HD.out]; exact hjl
                    have hij : i + 1 + j < ts.length := by have := HN.out; have := HD.out; omega
                    have hjn : (j : Int) < (d : Int) := by omega
                    have HTS := hid (segN_next (f := fun _ r => if (i : Int) < r.kind then r.kind - ((i : Int) - (a : Int)) - 1 else r.kind) (ts := ts) (k := i + 1) (m := j) (t := ts[i + 1 + j]) (seg_of hij))
                    have HLY := hid (show (segN (fun _ r => if (i : Int) < r.kind then r.kind - ((i : Int) - (a : Int)) - 1 else r.kind) ts (i + 1) j).length ≤ 1048576 by rw [segN_len j (by omega)]; omega)
                    have hrb := tree_kind HT.out (seg_of hij)
                    have HZR := hid (HZ.out _ (List.getElem_mem hij))
                    obtain ⟨br, orr, ar, cr, er, hbr, p0, p1, p2, p3, hAr⟩ := (HT6.out.below HY.out.bel) j hjD
                    subst er
                    rw [List.getElem_drop] at p0 p1 p2 p3 hAr
                    have HAR := hid hAr
                    obtain ⟨r, hr⟩ : ∃ r, ts[i + 1 + j] = r := ⟨_, rfl⟩
                    rw [hr] at p0 p1 p2 p3 HAR HZR HTS hrb
                    clear hr hAr hjD hij
                    obtain ⟨nR, hnR⟩ : ∃ nR, r.attrs.length = nR := ⟨_, rfl⟩
                    have HNR := hid hnR
                    rw [hnR] at p2
                    clear hnR
                    have HLR := hid ((Below.refl wr.heap.size wr).alloc (Nat.le_refl _) (.cells #[.int .i64 r.kind, .string r.name, .slice ar nR cr, .string r.text] 42))
                    have CR := hid (fun wx (h : AtRow wx ar r.attrs) => cCopyS ar cr r.attrs wx h HZR.out.2.1)
                    rw [HNR.out] at CR
                    obtain ⟨KR, hKR⟩ : ∃ KR, r.kind = KR := ⟨_, rfl⟩
                    have HKR := hid hKR
                    rw [hKR] at p0 hrb HLR
                    obtain ⟨hr1, hr2⟩ := hrb
                    clear hKR
                    go_wp2_with fail
                    refine (CR.out _ (HAR.out.below HLR.out)).mono ?_
                    rintro e w7 ⟨a7, c7, rfl, ha7, hb7⟩
                    have HBR := hid (Bx.made (c1 := c7) (t := r) (nA := nR) (aa := ar) (ca := cr) (a1 := a7) (w2 := w7) (by rw [HKR.out]; simpa using hb7) (by simpa using ha7))
                    have M7 := hid (blk_below (heap_alloc_new _ _) hb7)
                    obtain ⟨⟨x0, x1, x2, x3⟩, f0, f1, f2, f3⟩ := box4 M7.out
                    clear ha7 hb7 CR HLR p0 p1 p2 p3 hbr M7
                    obtain ⟨w8, hw8⟩ : ∃ w8, w7.setCell ⟨wr.heap.size, 2, none⟩ (.slice a7 nR c7) = w8 := ⟨_, rfl⟩
                    rw [hw8] at HBR
                    obtain ⟨⟨z0, z1, z2, z3⟩, g0, g1, g2, g3⟩ := box4 HBR.out.box
                    rw [HKR.out] at z0
                    by_cases hge : (i : Int) < KR
                    · have HBS := hid (HBR.out.kind (KR - ((i : Int) - (a : Int)) - 1))
                      obtain ⟨w9, hw9⟩ : ∃ w9, w8.setCell ⟨wr.heap.size, 0, none⟩ (.int .i64 (KR - ((i : Int) - (a : Int)) - 1)) = w9 := ⟨_, rfl⟩
                      rw [hw9] at HBS
                      obtain ⟨⟨s0, s1, s2, s3⟩, _⟩ := box4 HBS.out.box
                      have HFN := hid (show shK (KR - ((i : Int) - (a : Int)) - 1) r = shK (if (i : Int) < r.kind then r.kind - ((i : Int) - (a : Int)) - 1 else r.kind) r by rw [HKR.out, if_pos hge])
                      have hgd : decide ((i : Int) < KR) = true := decide_eq_true hge
                      go_wp2_with (at_builtin; refine wpL_bx w6 wr w9 rfl _ _ rfl u12 _ rfl HY.out (shK (KR - ((i : Int) - (a : Int)) - 1) r) a7 c7 nR rfl HNR.out HBS.out HLY.out ?_)
                      intro v10 w10 hr10
                      have HR10 := hid hr10
                      rw [HFN.out, ← HTS.out] at HR10
                      clear hr10 x0 x1 x2 x3 z0 z1 z2 z3 s0 s1 s2 s3 hw8 hw9
                      go_wp2_with fail
                      go_roundw
                      case rel => exact ⟨j + 1, by go_num, by omega, HR10.out⟩
                      case measure => simp [intOf]; omega
                    · have HBS := hid (show Bx wr w8 (shK KR r) nR a7 c7 by rw [show shK KR r = r by rw [← HKR.out]; rfl]; exact HBR.out)
                      have HFN := hid (show shK KR r = shK (if (i : Int) < r.kind then r.kind - ((i : Int) - (a : Int)) - 1 else r.kind) r by rw [HKR.out, if_neg hge])
                      have hgd : decide ((i : Int) < KR) = false := decide_eq_false hge
                      go_wp2_with (at_builtin; refine wpL_bx w6 wr w8 rfl _ _ rfl u12 _ rfl HY.out (shK KR r) a7 c7 nR rfl HNR.out HBS.out HLY.out ?_)
                      intro v10 w10 hr10
                      have HR10 := hid hr10
                      rw [HFN.out, ← HTS.out] at HR10
                      clear hr10 x0 x1 x2 x3 z0 z1 z2 z3 hw8
                      go_wp2_with fail
                      go_roundw
                      case rel => exact ⟨j + 1, by go_num, by omega, HR10.out⟩
                      case measure => simp [intOf]; omega
                  · have hjd : j = d := by omega
                    have HJN := hid (show R = L.set q ⟨t0.kind, t0.name, t0.attrs, t0.text ++ t.text⟩ ++ segN (fun _ r => if (i : Int) < r.kind then r.kind - ((i : Int) - (a : Int)) - 1 else r.kind) ts (i + 1) j by
                      rw [HRJ.out, HLA.out, HQ.out]
                      unfold joinC
                      rw [HN.out, HD.out, hjd])
                    have HLN := hid (show (L.set q ⟨t0.kind, t0.name, t0.attrs, t0.text ++ t.text⟩).length + (segN (fun _ r => if (i : Int) < r.kind then r.kind - ((i : Int) - (a : Int)) - 1 else r.kind) ts (i + 1) j).length ≤ 2097152 by
                      rw [List.length_set, HM.out, segN_len j (by rw [HN.out]; have := HD.out; omega)]
                      omega)
                    have hjdn : ¬ (j : Int) < (d : Int) := by omega
                    clear hjd
                    go_wp2_with (at_builtin; refine wpL_two w w6 _ rfl _ _ rfl (.slice (some ⟨g, 0, none⟩) (q + 1) c8) u12 _ _ rfl rfl HX6.out HY.out HLN.out ?_)
                    intro v11 w11 hr11
                    have HR11 := hid hr11
                    rw [← HJN.out] at HR11
                    clear hr11
                    go_wp2_with fail
                    go_ret
                    exact ⟨_, rfl, HR11.out⟩
    · have hie : i = n := by omega
      subst hie
      have HY := hid (show RowOf w wr u7 R by
        rw [← HRR.out]
        by_cases hEi : E < i
        · rw [cutL_no (HSD.out hEi), HN.out]
          exact HX.out
        · have hEn : E = i := by omega
          have hs : sideB ts a E = false := by
            unfold sideB
            rw [show ts[E]? = none from List.getElem?_eq_none (by rw [HN.out]; omega)]
            split
            · rename_i h; cases h
            · rfl
          rw [cutL_no hs, HN.out]
          exact HX.out)
      clear HX HSD
      go_wp2_with fail
      go_ret
      exact ⟨_, rfl, HY.out⟩

end Go.Proofs.YteninofjeidljaaGreat
