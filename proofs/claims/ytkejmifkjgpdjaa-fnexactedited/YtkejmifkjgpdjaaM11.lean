/- An element of a tree: contract of the specification's l9Element. Nodes copied one by one: contracts of the specification's l8Copy, l10Branch and Branch. Contracts of the specification's l10Branch and Branch. -/
import Derived.Test.YtkejmifkjgpdjaaM9
import Derived.Test.YtkejmifkjgpdjaaM10
namespace Go.Proofs.Ytkejmifkjgpdjaa
open Go.RowKit
set_option linter.unusedVariables false
set_option linter.unusedSimpArgs false

/-- The name of the one at x. -/
def nameI (ts : List Tk) (k : Nat) : ByteArray := match ts[k]? with | some t => t.name | none => ⟨#[]⟩

theorem nameI_at {ts : List Tk} {k : Nat} (h : k < ts.length) : nameI ts k = ts[k].name := by unfold nameI; rw [List.getElem?_eq_getElem h]

noncomputable def elemB (ts : List Tk) (x : Int) : Bool := hasB ts x && !decide ((nameI ts x.toNat).size = 0)

theorem elemB_t {ts : List Tk} {x : Int} (h : elemB ts x = true) : TreeP ts ∧ ∃ k : Nat, x = k ∧ k < ts.length := by
  unfold elemB at h
  rw [Bool.and_eq_true] at h
  exact hasB_t h.1

theorem name_row {w : World} {a : Option Addr} {ts : List Tk} (h : TkRow w a ts) {k : Nat} (hk : k < ts.length) : ∃ b o, a = some ⟨b, o, none⟩ ∧ w.cell? ⟨b, o + k * 4 + 1, none⟩ = some (.string (nameI ts k)) := by
  obtain ⟨b, o, e, _, h1⟩ := h.kindAt k hk
  exact ⟨b, o, e, by rw [nameI_at hk]; exact h1⟩

theorem name_sz {ts : List Tk} (hz : TksSz 1048576 ts) {k : Nat} (hk : k < ts.length) : (nameI ts k).size ≤ 1048576 := by
  rw [nameI_at hk]
  exact (hz _ (List.getElem_mem hk)).1

set_option maxHeartbeats 2000000 in
theorem c_spec_l9Element (a : Option Addr) (cap : Nat) (ts : List Tk) (x : Int) (w : World) (hR : TkRow w a ts) (hn : ts.length ≤ 1048576) (hz : TksSz 1048576 ts) :
    Calls Try.prog 62 #[.slice a ts.length cap, .int .i64 x] w fun e w' => e = .returned (.bool (elemB ts x)) ∧ Below w.heap.size w w' := by
  have C := hid (cHasS a cap ts x w hR hn hz)
  have HR := hid hR
  clear hR
  cases hh : hasB ts x with
  | false =>
    have HE := hid (show elemB ts x = false by unfold elemB; rw [hh]; rfl)
    rw [HE.out]
    rw [hh] at C
    clear hh HE HR hz
    generalize ts.length = n at *
    go_enter Try.func62, Try.ntmps62
    go_wp2_with fail
    refine C.out.mono ?_
    rintro e w1 ⟨rfl, hb1⟩
    have HB1 := hid hb1
    clear hb1 C
    go_wp2_with fail
    go_ret
    exact ⟨rfl, HB1.out⟩
  | true =>
    obtain ⟨hT, k, rfl, hk⟩ := hasB_t hh
    have HE := hid (show elemB ts (k : Int) = !decide ((nameI ts k).size = 0) by unfold elemB; rw [hh]; rfl)
    rw [HE.out]
    rw [hh] at C
    have HROW := hid (fun wx (hb : Below w.heap.size w wx) => name_row (HR.out.below hb) hk)
    obtain ⟨b, o, ea, -⟩ := name_row HR.out hk
    subst ea
    have E := empty_is (nameI ts k)
    have hkn : (k : Int) < (ts.length : Int) := by omega
    clear hh HE HR hz hT
    generalize ts.length = n at *
    generalize nameI ts k = N at *
    generalize decide (N.size = 0) = D at *
    go_enter Try.func62, Try.ntmps62
    go_wp2_with fail
    refine C.out.mono ?_
    rintro e w1 ⟨rfl, hb1⟩
    obtain ⟨b', o', e', c1⟩ := HROW.out _ hb1
    obtain ⟨rfl, rfl⟩ : b = b' ∧ o = o' := by cases e'; exact ⟨rfl, rfl⟩
    have HB1 := hid hb1
    clear hb1 C e' HROW
    go_wp2_with fail
    go_ret
    exact ⟨rfl, HB1.out⟩

end Go.Proofs.Ytkejmifkjgpdjaa

namespace Go.Proofs.Ytkejmifkjgpdjaa
open Go.RowKit
set_option linter.unusedVariables false
set_option linter.unusedSimpArgs false

theorem stopG {p : Prop} (h : Hid p) : p := h

theorem own_setG {w : World} {B : Nat} {a : Option Addr} {l : List At} (h : OwnAts w B a l) {p : Addr} (hp : p.block < B) (u : Value) : OwnAts (w.setCell p u) B a l := fun hl => by
  obtain ⟨g, o, cu, e1, e2, e3, e4⟩ := h hl
  refine ⟨g, o, cu, e1, e2, ?_, e4⟩
  rw [Below.heap_setCell _ _ _ _ (by omega)]
  exact e3

theorem own_lift {w : World} {B B' : Nat} {a : Option Addr} {l : List At} (h : OwnAts w B' a l) (hB : B ≤ B') : OwnAts w B a l := fun hl => by
  obtain ⟨g, o, cu, e1, e2, e3⟩ := h hl
  exact ⟨g, o, cu, e1, Nat.le_trans hB e2, e3⟩

theorem box_set {w : World} {g : Nat} {cur : Array Value} {T : TypeId} (h : w.heap[g]? = some (.cells cur T (0, 0))) (j : Nat) (v : Value) : (w.setCell ⟨g, j, none⟩ v).heap[g]? = some (.cells (cur.setIfInBounds j v) T (0, 0)) := heap_setCell_same w g j cur T v h

theorem node_cells {w : World} {g : Nat} {t : Tk} {a1 : Option Addr} {c1 : Nat} (h : w.heap[g]? = some (.cells #[.int .i64 t.kind, .string t.name, .slice a1 t.attrs.length c1, .string t.text] 50 (0, 0))) :
    ∀ j u, (Nd.cs [⟨t, a1, c1⟩])[j]? = some u → w.cell? ((⟨g, 0, none⟩ : Addr).add j) = some u := by
  intro j u hj
  rw [add_plainW, Nat.zero_add, Lib.cell_of_heap h]
  rw [Nd.cs_one] at hj
  match j, hj with
  | 0, hj => exact hj
  | 1, hj => exact hj
  | 2, hj => exact hj
  | 3, hj => exact hj

/-- append of a node to a row of one's own, its attrs made since. -/
theorem wpL_node (W : World) {ops : Array Oper} {rest : List Oper} {o : Oper} {a : Act} {Q : Exit → Act → World → Prop} (hgd : o.guard = none) (s x : Operand)
    (ho : o.op = .call { callee := .builtin .append, args := #[s, x], argTypes := #[26, 26] }) (base : Nat) (v : Value) (es : List Nd.E) (hs : a.eval s = v) (wr : World) (hrow : Nd.Row wr base v es) (hb0 : base ≤ wr.heap.size) (hB : Below wr.heap.size wr W)
    (t : Tk) (a1 : Option Addr) (c1 g : Nat) (hx : a.eval x = .slice (some ⟨g, 0, none⟩) 1 1) (hg : W.heap[g]? = some (.cells #[.int .i64 t.kind, .string t.name, .slice a1 t.attrs.length c1, .string t.text] 50 (0, 0))) (hA : OwnAts W wr.heap.size a1 t.attrs) (hn : es.length ≤ 1048576)
    (h : ∀ a' c' w', Nd.Row w' base (.slice a' (es ++ [(⟨t, a1, c1⟩ : Nd.E)]).length c') (es ++ [⟨t, a1, c1⟩]) → Below base W w' → wpList Try.prog ops Q rest (a.put o.dst (.slice a' (es ++ [(⟨t, a1, c1⟩ : Nd.E)]).length c')) w') : wpList Try.prog ops Q (o :: rest) a W := by
  have hbW : base ≤ W.heap.size := Nat.le_trans hb0 hB.size
  refine Nd.wpL_join W hgd s x ho base v es [⟨t, a1, c1⟩] hs (hrow.below hB) g 1 1 hx rfl (node_cells hg) (fun e he => ?_) (List.pairwise_singleton _ _) (fun e he f hf => ?_) (by show es.length + 1 ≤ _; omega) hbW (fun a' c' w' h1 h2 _ => h a' c' w' h1 h2)
  · rw [List.mem_singleton] at he
    subst he
    refine ⟨own_lift hA hb0, fun g' o' hl e1 e2 => ?_⟩
    obtain ⟨g2, o2, cu, k1, k2, _⟩ := hA hl
    rw [k1] at e1
    cases e1
    have := (hrow.own.lt _ e2).2
    omega
  · rw [List.mem_singleton] at hf
    subst hf
    intro hl hl' g1 o1 g2 o2 e1 e2 e3
    obtain ⟨k, ko, cu, k1, k2, _⟩ := hA hl'
    obtain ⟨m, mo, cm, m1, m2, m3, _⟩ := (hrow.ats e he).1 hl
    rw [k1] at e2
    rw [m1] at e1
    cases e1
    cases e2
    have := lt_of_heap m3
    omega

/-- The row so far is this one. -/
structure RowOf (w wr : World) (v : Value) (L : List Tk) : Prop where
  row : ∃ es a c, v = .slice a es.length c ∧ Nd.Row wr w.heap.size (.slice a es.length c) es ∧ es.map (·.t) = L
  bel : Below w.heap.size w wr

theorem RowOf.open {w wr : World} {v : Value} {L : List Tk} (h : RowOf w wr v L) : ∃ es a c, v = .slice a es.length c ∧ Nd.Row wr w.heap.size (.slice a es.length c) es ∧ es.map (·.t) = L ∧ es.length = L.length := by
  obtain ⟨es, a, c, e1, e2, e3⟩ := h.row
  exact ⟨es, a, c, e1, e2, e3, by rw [← e3, List.length_map]⟩

theorem RowOf.tk {w wr : World} {v : Value} {L : List Tk} (h : RowOf w wr v L) : ∃ a c, v = .slice a L.length c ∧ TkRow wr a L := by
  obtain ⟨es, a, c, rfl, hr, hm, hl⟩ := h.open
  obtain ⟨a2, c2, e, ht⟩ := hr.tkRow
  cases e
  rw [hm] at ht
  exact ⟨a, c, by rw [hl], ht⟩

theorem RowOf.start {w wr : World} (hb : Below w.heap.size w wr) {g : Nat} (hg : w.heap.size ≤ g) (hh : wr.heap[g]? = some (.cells #[] 50 (0, 0))) : RowOf w wr (.slice (some ⟨g, 0, none⟩) 0 0) [] :=
  ⟨⟨[], _, _, rfl, Nd.Row.start _ _ _ hg hh, rfl⟩, hb⟩

theorem RowOf.below {w wr w' : World} {v : Value} {L : List Tk} (h : RowOf w wr v L) (hb : Below wr.heap.size wr w') : RowOf w w' v L := by
  obtain ⟨es, a, c, e1, e2, e3⟩ := h.row
  exact ⟨⟨es, a, c, e1, e2.below hb, e3⟩, bb h.bel hb⟩

theorem RowOf.more {w w' : World} {es : List Nd.E} {a : Option Addr} {c : Nat} {L : List Tk} {t : Tk} {a1 : Option Addr} {c1 : Nat} (hm : es.map (·.t) = L) (h : Nd.Row w' w.heap.size (.slice a (es ++ [(⟨t, a1, c1⟩ : Nd.E)]).length c) (es ++ [⟨t, a1, c1⟩])) (hb : Below w.heap.size w w') : RowOf w w' (.slice a (es ++ [(⟨t, a1, c1⟩ : Nd.E)]).length c) (L ++ [t]) :=
  ⟨⟨_, a, c, rfl, h, by rw [List.map_append, hm]; rfl⟩, hb⟩

/-- append of a node to such a row. -/
theorem wpL_row (w wr W : World) {ops : Array Oper} {rest : List Oper} {o : Oper} {a : Act} {Q : Exit → Act → World → Prop} (hgd : o.guard = none) (s x : Operand)
    (ho : o.op = .call { callee := .builtin .append, args := #[s, x], argTypes := #[26, 26] }) (v : Value) (L : List Tk) (hs : a.eval s = v) (hrow : RowOf w wr v L) (hB : Below wr.heap.size wr W)
    (t : Tk) (a1 : Option Addr) (c1 g nA : Nat) (hx : a.eval x = .slice (some ⟨g, 0, none⟩) 1 1) (hnA : t.attrs.length = nA) (hg : W.heap[g]? = some (.cells #[.int .i64 t.kind, .string t.name, .slice a1 nA c1, .string t.text] 50 (0, 0))) (hA : OwnAts W wr.heap.size a1 t.attrs) (hn : L.length ≤ 1048576)
    (h : ∀ v' w', RowOf w w' v' (L ++ [t]) → wpList Try.prog ops Q rest (a.put o.dst v') w') : wpList Try.prog ops Q (o :: rest) a W := by
  obtain ⟨es, a8, c8, rfl, hr, hm, hl⟩ := hrow.open
  subst hnA
  refine wpL_node W hgd s x ho w.heap.size _ es hs wr hr hrow.bel.size hB t a1 c1 g hx hg hA (by omega) (fun a' c' w' h1 h2 => h _ w' (RowOf.more hm h1 ((hrow.bel.trans (hB.mono hrow.bel.size)).trans h2)))

set_option maxRecDepth 4000 in
set_option maxHeartbeats 4000000 in
theorem cCopyT (a : Option Addr) (cap : Nat) (ts : List Tk) (w : World) (hR : TkRow w a ts) (hn : ts.length ≤ 1048576) (hz : TksSz 1048576 ts) :
    Calls Try.prog 19 #[.slice a ts.length cap] w fun e w' => ∃ v, e = .returned v ∧ RowOf w w' v ts := by
  have HR := hid hR
  have HZ := hid hz
  have HB0 := hid ((Below.refl w.heap.size w).alloc (Nat.le_refl _) (.cells #[] 50))
  have M0 := hid (heap_alloc_new w (.cells #[] 50))
  clear hR hz
  obtain ⟨n, hnn⟩ : ∃ n, ts.length = n := ⟨_, rfl⟩
  have HN := hid hnn
  rw [hnn] at hn ⊢
  clear hnn
  go_enter Try.func19, Try.ntmps19
  go_wp2_with fail
  go_loopw [3, 4] (fun v k wr => ∃ i : Nat, k = .int .i64 (i : Int) ∧ i ≤ n ∧ Hid (RowOf w wr v (ts.take i))) (fun _ k _ => n - (intOf k).toNat)
  case atStart => exact ⟨0, rfl, Nat.zero_le _, by rw [List.take_zero]; exact RowOf.start HB0.out (Nat.le_refl _) M0.out⟩
  case round =>
    clear HB0 M0
    obtain ⟨i, rfl, hi, HX⟩ := hrel
    by_cases hlt : i < n
    · have his : i < ts.length := by rw [HN.out]; exact hlt
      have hin : (i : Int) < (n : Int) := by omega
      have HTS := hid (take_snocN his)
      have HLT := hid (show (ts.take i).length ≤ 1048576 by rw [List.length_take]; omega)
      have HZT := hid (HZ.out _ (List.getElem_mem his))
      obtain ⟨b, o, aa, ca, e', hb, q0, q1, q2, q3, hA⟩ := (HR.out.below HX.out.bel) i his
      subst e'
      have HAT := hid hA
      obtain ⟨t, ht⟩ : ∃ t, ts[i] = t := ⟨_, rfl⟩
      rw [ht] at q0 q1 q2 q3 HAT HZT HTS
      clear ht hA
      obtain ⟨nA, hnA⟩ : ∃ nA, t.attrs.length = nA := ⟨_, rfl⟩
      have HNA := hid hnA
      rw [hnA] at q2
      clear hnA
      have HL1 := hid ((Below.refl wr.heap.size wr).alloc (Nat.le_refl _) (.cells #[.int .i64 t.kind, .string t.name, .slice aa nA ca, .string t.text] 50))
      have M1 := hid (heap_alloc_new wr (.cells #[.int .i64 t.kind, .string t.name, .slice aa nA ca, .string t.text] 50))
      have CC := hid (fun wx (h : AtRow wx aa t.attrs) => cCopyS aa ca t.attrs wx h HZT.out.2.1)
      rw [HNA.out] at CC
      go_wp2_with fail
      refine (CC.out _ (HAT.out.below HL1.out)).mono ?_
      rintro e w2 ⟨a1, c1, rfl, ha1, hb2⟩
      have HA1 := hid (show OwnAts w2 (wr.heap.size + 1) a1 t.attrs by simpa using ha1)
      have HL2 := hid (bb HL1.out hb2)
      have M2 := hid (blk_below M1.out hb2)
      obtain ⟨⟨x0, x1, x2, x3⟩, f0, f1, f2, f3⟩ := box4 M2.out
      clear ha1 hb2 CC HL1 M1 q0 q1 q2 q3 hb
      have HS3 := hid (HL2.out.setCell (p := ⟨wr.heap.size, 2, none⟩) (Nat.le_refl _) (.slice a1 nA c1))
      have HA3 := hid (own_lift (own_setG HA1.out (p := ⟨wr.heap.size, 2, none⟩) (Nat.lt_succ_self _) (.slice a1 nA c1)) (Nat.le_succ _))
      have M3 := hid (box_set M2.out 2 (.slice a1 nA c1))
      obtain ⟨w3, hw3⟩ : ∃ w3, w2.setCell ⟨wr.heap.size, 2, none⟩ (.slice a1 nA c1) = w3 := ⟨_, rfl⟩
      rw [hw3] at HS3 HA3 M3
      obtain ⟨⟨y0, y1, y2, y3⟩, _⟩ := box4 M3.out
      have HM4 := hid (heap_alloc_new w3 (.cells #[.int .i64 t.kind, .string t.name, .slice a1 nA c1, .string t.text] 50))
      have HB4 := hid (HS3.out.alloc HS3.out.size (.cells #[.int .i64 t.kind, .string t.name, .slice a1 nA c1, .string t.text] 50))
      have HA4 := hid (HA3.out.below ((Below.refl _ _).alloc (Nat.le_refl _) (.cells #[.int .i64 t.kind, .string t.name, .slice a1 nA c1, .string t.text] 50)))
      go_wp2_with (at_builtin; refine wpL_row w wr _ rfl _ _ rfl _ (ts.take i) rfl HX.out HB4.out t a1 c1 w3.heap.size nA rfl HNA.out HM4.out HA4.out HLT.out ?_)
      intro v5 w5 hr5
      have HR5 := hid hr5
      rw [← HTS.out] at HR5
      clear hr5 x0 x1 x2 x3 y0 y1 y2 y3 hw3
      go_wp2_with fail
      go_roundw
      case rel => exact ⟨i + 1, by go_num, by omega, HR5.out⟩
      case measure => simp [intOf]; omega
    · have hie : i = n := by omega
      subst hie
      have HY := hid (show RowOf w wr u3 ts by
        have h := HX.out
        rw [List.take_of_length_le (by rw [HN.out]; exact Nat.le_refl _)] at h
        exact h)
      clear HX
      go_wp2_with fail
      go_ret
      exact ⟨_, rfl, HY.out⟩

end Go.Proofs.Ytkejmifkjgpdjaa

namespace Go.Proofs.Ytkejmifkjgpdjaa
open Go.RowKit
set_option linter.unusedVariables false
set_option linter.unusedSimpArgs false

/-- A node in a box, its attrs made anew. -/
structure Bx (wr W : World) (t : Tk) (nA : Nat) (a1 : Option Addr) (c1 : Nat) : Prop where
  bel : Below wr.heap.size wr W
  box : W.heap[wr.heap.size]? = some (.cells #[.int .i64 t.kind, .string t.name, .slice a1 nA c1, .string t.text] 50 (0, 0))
  own : OwnAts W (wr.heap.size + 1) a1 t.attrs

theorem Bx.made {wr w2 : World} {t : Tk} {nA c1 ca : Nat} {aa a1 : Option Addr} (hb : Below (wr.heap.size + 1) (wr.alloc (.cells #[.int .i64 t.kind, .string t.name, .slice aa nA ca, .string t.text] 50)) w2) (hA : OwnAts w2 (wr.heap.size + 1) a1 t.attrs) :
    Bx wr (w2.setCell ⟨wr.heap.size, 2, none⟩ (.slice a1 nA c1)) t nA a1 c1 := by
  have h0 := (Below.refl wr.heap.size wr).alloc (Nat.le_refl _) (.cells #[.int .i64 t.kind, .string t.name, .slice aa nA ca, .string t.text] 50)
  have m0 := heap_alloc_new wr (.cells #[.int .i64 t.kind, .string t.name, .slice aa nA ca, .string t.text] 50)
  refine ⟨(h0.trans (hb.mono (Nat.le_succ _))).setCell (p := ⟨wr.heap.size, 2, none⟩) (Nat.le_refl _) _, ?_, own_setG hA (p := ⟨wr.heap.size, 2, none⟩) (Nat.lt_succ_self _) _⟩
  exact box_set ((hb.block _ (Nat.lt_succ_self _)).trans m0) 2 (.slice a1 nA c1)

theorem Bx.kind {wr W : World} {t : Tk} {nA c1 : Nat} {a1 : Option Addr} (h : Bx wr W t nA a1 c1) (k : Int) : Bx wr (W.setCell ⟨wr.heap.size, 0, none⟩ (.int .i64 k)) (shK k t) nA a1 c1 :=
  ⟨h.bel.setCell (p := ⟨wr.heap.size, 0, none⟩) (Nat.le_refl _) _, box_set h.box 0 (.int .i64 k), own_setG h.own (p := ⟨wr.heap.size, 0, none⟩) (Nat.lt_succ_self _) _⟩

theorem wpL_bx (w wr W0 : World) {ops : Array Oper} {rest : List Oper} {o : Oper} {a : Act} {Q : Exit → Act → World → Prop} (hgd : o.guard = none) (s x : Operand)
    (ho : o.op = .call { callee := .builtin .append, args := #[s, x], argTypes := #[26, 26] }) (v : Value) (L : List Tk) (hs : a.eval s = v) (hrow : RowOf w wr v L)
    (t : Tk) (a1 : Option Addr) (c1 nA : Nat) (hx : a.eval x = .slice (some ⟨W0.heap.size, 0, none⟩) 1 1) (hnA : t.attrs.length = nA) (hbx : Bx wr W0 t nA a1 c1) (hn : L.length ≤ 1048576)
    (h : ∀ v' w', RowOf w w' v' (L ++ [t]) → wpList Try.prog ops Q rest (a.put o.dst v') w') : wpList Try.prog ops Q (o :: rest) a (W0.alloc (.cells #[.int .i64 t.kind, .string t.name, .slice a1 nA c1, .string t.text] 50)) :=
  wpL_row w wr _ hgd s x ho v L hs hrow (hbx.bel.alloc hbx.bel.size _) t a1 c1 W0.heap.size nA hx hnA (heap_alloc_new _ _) (own_lift (hbx.own.below ((Below.refl _ _).alloc (Nat.le_refl _) _)) (Nat.le_succ _)) hn h

theorem seg_of {ts : List Tk} {i : Nat} (h : i < ts.length) : ts[i]? = some ts[i] := List.getElem?_eq_getElem h

set_option maxRecDepth 4000 in
set_option maxHeartbeats 4000000 in
theorem cBranchL (a : Option Addr) (cap : Nat) (ts : List Tk) (k : Nat) (w : World) (hR : TkRow w a ts) (hT : TreeP ts) (hk : k < ts.length) (hn : ts.length ≤ 1048576) (hz : TksSz 1048576 ts) :
    Calls Try.prog 63 #[.slice a ts.length cap, .int .i64 (k : Int)] w fun e w' => ∃ v, e = .returned v ∧ RowOf w w' v (branchL ts k) := by
  have HR := hid hR
  have HZ := hid hz
  have HT := hid hT
  have h50 : ts.length ≤ 50 := hT.2.1
  have HB0 := hid ((Below.refl w.heap.size w).alloc (Nat.le_refl _) (.cells #[] 50))
  have M0 := hid (heap_alloc_new w (.cells #[] 50))
  have CE := hid (fun wx (h : TkRow wx a ts) => cEndS a cap ts k wx h hk hn)
  have hE := endN_le hk
  obtain ⟨E, hEE⟩ : ∃ E, endN ts k = E := ⟨_, rfl⟩
  have HBR := hid (show branchL ts k = segN (brF k) ts k (E - k) by unfold branchL; rw [hEE])
  rw [hEE] at CE hE
  rw [HBR.out]
  obtain ⟨n, hnn⟩ : ∃ n, ts.length = n := ⟨_, rfl⟩
  have HN := hid hnn
  rw [hnn] at hn hk hE CE h50 ⊢
  clear hR hz hT hEE hnn HBR
  go_enter Try.func63, Try.ntmps63
  go_wp2_with fail
  go_loopw [5, 6] (fun v i wr => ∃ m : Nat, i = .int .i64 ((k + m : Nat) : Int) ∧ k + m ≤ E ∧ Hid (RowOf w wr v (segN (brF k) ts k m))) (fun _ i _ => E - (intOf i).toNat)
  case atStart => exact ⟨0, rfl, by omega, RowOf.start HB0.out (Nat.le_refl _) M0.out⟩
  case round =>
    clear HB0 M0
    obtain ⟨m, rfl, hm, HX⟩ := hrel
    obtain ⟨i, hi⟩ : ∃ i, k + m = i := ⟨_, rfl⟩
    have HI := hid hi
    rw [hi] at hm ⊢
    by_cases hlt : i < E
    · have his : i < ts.length := by rw [HN.out]; omega
      have hin : (i : Int) < (n : Int) := by omega
      have hiE : (i : Int) < (E : Int) := by omega
      have HTS := hid (segN_next (f := brF k) (ts := ts) (k := k) (m := m) (t := ts[i]) (by rw [hi]; exact seg_of his))
      rw [hi] at HTS
      have HLT := hid (show (segN (brF k) ts k m).length ≤ 1048576 by rw [segN_len m (by rw [hi]; omega)]; omega)
      have HZT := hid (HZ.out _ (List.getElem_mem his))
      have hkb := tree_kind HT.out (seg_of his)
      obtain ⟨b, o, aa, ca, e', hb, q0, q1, q2, q3, hA⟩ := (HR.out.below HX.out.bel) i his
      subst e'
      have HRW := hid (HR.out.below HX.out.bel)
      have HAT := hid hA
      obtain ⟨t, ht⟩ : ∃ t, ts[i] = t := ⟨_, rfl⟩
      rw [ht] at q0 q1 q2 q3 HAT HZT HTS hkb
      clear ht hA
      obtain ⟨nA, hnA⟩ : ∃ nA, t.attrs.length = nA := ⟨_, rfl⟩
      have HNA := hid hnA
      rw [hnA] at q2
      clear hnA
      have HL1 := hid ((Below.refl wr.heap.size wr).alloc (Nat.le_refl _) (.cells #[.int .i64 t.kind, .string t.name, .slice aa nA ca, .string t.text] 50))
      have CC := hid (fun wx (h : AtRow wx aa t.attrs) => cCopyS aa ca t.attrs wx h HZT.out.2.1)
      rw [HNA.out] at CC
      obtain ⟨K, hK⟩ : ∃ K, t.kind = K := ⟨_, rfl⟩
      have HK := hid hK
      rw [hK] at q0 hkb HL1
      obtain ⟨hk1, hk2⟩ := hkb
      clear hK hi
      go_wp2_with fail
      refine (CE.out _ HRW.out).mono ?_
      rintro e w1 ⟨rfl, rfl⟩
      go_wp2_with fail
      refine (CC.out _ (HAT.out.below HL1.out)).mono ?_
      rintro e w2 ⟨a1, c1, rfl, ha1, hb2⟩
      have HBX := hid (Bx.made (c1 := c1) (t := t) (nA := nA) (aa := aa) (ca := ca) (a1 := a1) (w2 := w2) (by rw [HK.out]; simpa using hb2) (by simpa using ha1))
      have M2 := hid (blk_below (heap_alloc_new _ _) hb2)
      obtain ⟨⟨x0, x1, x2, x3⟩, f0, f1, f2, f3⟩ := box4 M2.out
      clear ha1 hb2 CC HL1 q0 q1 q2 q3 hb M2
      obtain ⟨w3, hw3⟩ : ∃ w3, w2.setCell ⟨w1.heap.size, 2, none⟩ (.slice a1 nA c1) = w3 := ⟨_, rfl⟩
      rw [hw3] at HBX
      obtain ⟨⟨y0, y1, y2, y3⟩, g0, g1, g2, g3⟩ := box4 HBX.out.box
      rw [HK.out] at y0
      have HBX4 := hid (HBX.out.kind (K - (k : Int)))
      obtain ⟨w4, hw4⟩ : ∃ w4, w3.setCell ⟨w1.heap.size, 0, none⟩ (.int .i64 (K - (k : Int))) = w4 := ⟨_, rfl⟩
      rw [hw4] at HBX4
      obtain ⟨⟨z0, z1, z2, z3⟩, h0, h1, h2, h3⟩ := box4 HBX4.out.box
      by_cases hm0 : m = 0
      · have hik : i = k := by rw [← HI.out, hm0]; rfl
        have HBX5 := hid (HBX4.out.kind (-1))
        obtain ⟨w5, hw5⟩ : ∃ w5, w4.setCell ⟨w1.heap.size, 0, none⟩ (.int .i64 (-1)) = w5 := ⟨_, rfl⟩
        rw [hw5] at HBX5
        obtain ⟨⟨v0, v1, v2, v3⟩, _⟩ := box4 HBX5.out.box
        have HFN := hid (show shK (-1) (shK (K - (k : Int)) t) = shK (brF k i t) t by unfold brF; rw [if_pos hik]; rfl)
        have hqq : ((i : Int) == (k : Int)) = true := by simp; omega
        clear hik hm0
        go_wp2_with (at_builtin; refine wpL_bx w w1 w5 rfl _ _ rfl u5 (segN (brF k) ts k m) rfl HX.out (shK (-1) (shK (K - (k : Int)) t)) a1 c1 nA rfl HNA.out HBX5.out HLT.out ?_)
        intro v6 w6 hr6
        have HR6 := hid hr6
        rw [HFN.out, ← HTS.out] at HR6
        clear hr6 x0 x1 x2 x3 y0 y1 y2 y3 z0 z1 z2 z3 v0 v1 v2 v3 hw3 hw4 hw5
        go_wp2_with fail
        go_roundw
        case rel => exact ⟨m + 1, by rw [← HI.out]; go_num, by have := HI.out; omega, HR6.out⟩
        case measure => simp [intOf]; omega
      · have hik : ¬ i = k := by have := HI.out; omega
        have HFN := hid (show shK (K - (k : Int)) t = shK (brF k i t) t by unfold brF; rw [if_neg hik, HK.out])
        have hqq : ((i : Int) == (k : Int)) = false := by simp; omega
        clear hik hm0
        go_wp2_with (at_builtin; refine wpL_bx w w1 w4 rfl _ _ rfl u5 (segN (brF k) ts k m) rfl HX.out (shK (K - (k : Int)) t) a1 c1 nA rfl HNA.out HBX4.out HLT.out ?_)
        intro v6 w6 hr6
        have HR6 := hid hr6
        rw [HFN.out, ← HTS.out] at HR6
        clear hr6 x0 x1 x2 x3 y0 y1 y2 y3 z0 z1 z2 z3 hw3 hw4
        go_wp2_with fail
        go_roundw
        case rel => exact ⟨m + 1, by rw [← HI.out]; go_num, by have := HI.out; omega, HR6.out⟩
        case measure => simp [intOf]; omega
    · have hie : i = E := by omega
      have HRW := hid (HR.out.below HX.out.bel)
      have HY := hid (show RowOf w wr u5 (segN (brF k) ts k (E - k)) by
        have h := HX.out
        rw [show E - k = m by omega]
        exact h)
      have hiE : ¬ (i : Int) < (E : Int) := by omega
      clear HX hie
      go_wp2_with fail
      refine (CE.out _ HRW.out).mono ?_
      rintro e w1 ⟨rfl, rfl⟩
      go_wp2_with fail
      go_ret
      exact ⟨_, rfl, HY.out⟩

/-- A tree that is answered, in memory of its own, and whether it is what was asked for. -/
def TreeAns (w : World) (R : List Tk) (b : Bool) (e : Ending) (w' : World) : Prop := ∃ v, e = .returned (.tuple #[v, .bool b]) ∧ RowOf w w' v R

theorem TreeAns.none {w wr : World} (hb : Below w.heap.size w wr) : TreeAns w [] false (.returned (.tuple #[.slice (some ⟨wr.heap.size, 0, none⟩) 0 0, .bool false])) (wr.alloc (.cells #[] 50)) :=
  ⟨_, rfl, RowOf.start (hb.alloc hb.size _) hb.size (heap_alloc_new _ _)⟩

noncomputable def branchI (ts : List Tk) (x : Int) : List Tk := if elemB ts x then branchL ts x.toNat else []

theorem RowOf.later {w w1 w' : World} {v : Value} {L : List Tk} (hb : Below w.heap.size w w1) (h : RowOf w1 w' v L) : RowOf w w' v L := by
  obtain ⟨es, a, c, e1, e2, e3⟩ := h.row
  exact ⟨⟨es, a, c, e1, e2.mono hb.size, e3⟩, bb hb h.bel⟩

set_option maxHeartbeats 2000000 in
theorem cBranchS (a : Option Addr) (cap : Nat) (ts : List Tk) (x : Int) (w : World) (hR : TkRow w a ts) (hn : ts.length ≤ 1048576) (hz : TksSz 1048576 ts) :
    Calls Try.prog 37 #[.slice a ts.length cap, .int .i64 x] w (TreeAns w (branchI ts x) (elemB ts x)) := by
  have C := hid (c_spec_l9Element a cap ts x w hR hn hz)
  cases hh : elemB ts x with
  | false =>
    have HE := hid (show branchI ts x = [] by unfold branchI; rw [hh]; rfl)
    rw [HE.out]
    rw [hh] at C
    clear hh HE hR hz
    generalize ts.length = n at *
    go_enter Try.func37, Try.ntmps37
    go_wp2_with fail
    refine C.out.mono ?_
    rintro e w1 ⟨rfl, hb1⟩
    have HB1 := hid hb1
    clear hb1 C
    go_wp2_with fail
    go_ret2
    exact TreeAns.none HB1.out
  | true =>
    obtain ⟨hT, k, rfl, hk⟩ := elemB_t hh
    have HE := hid (show branchI ts (k : Int) = branchL ts k by unfold branchI; rw [hh]; rfl)
    rw [HE.out]
    rw [hh] at C
    have CM := hid (fun wx (hb : Below w.heap.size w wx) => cBranchL a cap ts k wx (hR.below hb) hT hk hn hz)
    clear hh HE hR hz hT hk
    generalize branchL ts k = L at *
    generalize ts.length = n at *
    go_enter Try.func37, Try.ntmps37
    go_wp2_with fail
    refine C.out.mono ?_
    rintro e w1 ⟨rfl, hb1⟩
    have CM1 := hid (CM.out _ hb1)
    have HB1 := hid hb1
    clear hb1 C CM
    go_wp2_with fail
    refine CM1.out.mono ?_
    rintro e w2 ⟨v, rfl, hr2⟩
    have HR2 := hid (RowOf.later HB1.out hr2)
    clear hr2 CM1
    go_wp2_with fail
    go_ret2
    exact ⟨_, rfl, HR2.out⟩

end Go.Proofs.Ytkejmifkjgpdjaa
