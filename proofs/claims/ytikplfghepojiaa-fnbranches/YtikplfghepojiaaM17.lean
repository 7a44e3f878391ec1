/- Rows of nodes taken from a tree, one by one (mathematics alone): branches, what is put in. An element of a tree: contract of the specification's l9Element. Nodes copied one by one: contracts of the specification's l8Copy, l10Branch and Branch. -/
import Derived.Test.YtikplfghepojiaaM10
import Derived.Test.YtikplfghepojiaaM11
namespace Go.Proofs.Ytikplfghepojiaa
open Go.RowKit
set_option linter.unusedVariables false

/-- The node, with another parent. -/
def shK (k : Int) (t : Tk) : Tk := ⟨k, t.name, t.attrs, t.text⟩

/-- m nodes from k on, each by its place. -/
def segN (f : Nat → Tk → Int) (ts : List Tk) (k : Nat) : Nat → List Tk
  | 0 => []
  | m + 1 => segN f ts k m ++ (match ts[k + m]? with | some t => [shK (f (k + m) t) t] | none => [])

theorem segN_next {f : Nat → Tk → Int} {ts : List Tk} {k m : Nat} {t : Tk} (h : ts[k + m]? = some t) : segN f ts k (m + 1) = segN f ts k m ++ [shK (f (k + m) t) t] := by
  show segN f ts k m ++ _ = _
  rw [h]

theorem segN_len {f : Nat → Tk → Int} {ts : List Tk} {k : Nat} : ∀ m, k + m ≤ ts.length → (segN f ts k m).length = m
  | 0, _ => rfl
  | m + 1, h => by
    rw [segN_next (List.getElem?_eq_getElem (show k + m < ts.length by omega)), List.length_append, segN_len m (by omega)]
    rfl

theorem segN_get {f : Nat → Tk → Int} {ts : List Tk} {k : Nat} : ∀ m, k + m ≤ ts.length → ∀ j, j < m → ∀ t, ts[k + j]? = some t → (segN f ts k m)[j]? = some (shK (f (k + j) t) t)
  | 0, _, j, hj, _, _ => absurd hj (Nat.not_lt_zero _)
  | m + 1, h, j, hj, t, ht => by
    have hl : (segN f ts k m).length = m := segN_len m (by omega)
    rw [segN_next (List.getElem?_eq_getElem (show k + m < ts.length by omega))]
    by_cases e : j < m
    · rw [List.getElem?_append_left (by rw [hl]; exact e)]
      exact segN_get m (by omega) j e t ht
    · have e2 : j = m := by omega
      subst e2
      rw [List.getElem?_append_right (by rw [hl]; exact Nat.le_refl _), hl, Nat.sub_self]
      rw [List.getElem?_eq_getElem (show k + j < ts.length by omega)] at ht
      rw [Option.some.inj ht]
      rfl

/-- All as it was. -/
theorem segN_same {ts : List Tk} : ∀ m, m ≤ ts.length → segN (fun _ t => t.kind) ts 0 m = ts.take m
  | 0, _ => by rw [List.take_zero]; rfl
  | m + 1, h => by
    have e : ts[0 + m]? = some ts[m] := by rw [Nat.zero_add]; exact List.getElem?_eq_getElem (by omega)
    rw [segN_next e, segN_same m (by omega), List.take_succ_eq_append_getElem (show m < ts.length by omega)]
    rfl

theorem segN_all (ts : List Tk) : segN (fun _ t => t.kind) ts 0 ts.length = ts := by
  rw [segN_same _ (Nat.le_refl _), List.take_of_length_le (Nat.le_refl _)]

/-- Sizes stay. -/
theorem segN_sz {f : Nat → Tk → Int} {ts : List Tk} {k b : Nat} (h : TksSz b ts) : ∀ m, TksSz b (segN f ts k m)
  | 0 => fun t ht => absurd ht List.not_mem_nil
  | m + 1 => by
    cases e : ts[k + m]? with
    | none =>
      have e2 : segN f ts k (m + 1) = segN f ts k m := by
        show segN f ts k m ++ _ = _
        rw [e, List.append_nil]
      rw [e2]
      exact segN_sz h m
    | some t =>
      rw [segN_next e]
      intro u hu
      rcases List.mem_append.1 hu with h' | h'
      · exact segN_sz h m u h'
      · rw [List.mem_singleton] at h'
        subst h'
        exact h t (List.mem_of_getElem? e)

/-- Who is whose parent in a branch. -/
def brF (k : Nat) (i : Nat) (t : Tk) : Int := if i = k then -1 else t.kind - (k : Int)

/-- The branch there. -/
def branchL (ts : List Tk) (k : Nat) : List Tk := segN (brF k) ts k (endN ts k - k)

/-- A tree with a branch put in, of which that is the parent. -/
def putL (ts : List Tk) (place : Nat) (parent : Int) (br : List Tk) : List Tk :=
  (segN (fun _ t => t.kind) ts 0 place ++ segN (fun i t => if i = 0 then parent else t.kind + (place : Int)) br 0 br.length) ++ segN (fun _ t => if (place : Int) ≤ t.kind then t.kind + (br.length : Int) else t.kind) ts place (ts.length - place)

theorem branchL_len {ts : List Tk} {k : Nat} (hk : k < ts.length) : (branchL ts k).length = endN ts k - k := by
  have h := endN_le hk
  exact segN_len _ (by omega)

theorem putL_len {ts : List Tk} {place : Nat} {parent : Int} {br : List Tk} (h : place ≤ ts.length) : (putL ts place parent br).length = ts.length + br.length := by
  unfold putL
  rw [List.length_append, List.length_append, segN_len _ (by omega), segN_len _ (by omega), segN_len _ (by omega)]
  omega

/-- In a tree a parent is a place of it, or none. -/
theorem tree_kind {ts : List Tk} (hT : TreeP ts) {i : Nat} {t : Tk} (h : ts[i]? = some t) : -1 ≤ t.kind ∧ t.kind < 50 := by
  have hi : i < ts.length := by
    rcases Nat.lt_or_ge i ts.length with h' | h'
    · exact h'
    · rw [List.getElem?_eq_none h'] at h; cases h
  have e : t.kind = parI ts i := by unfold parI; rw [h]
  rcases (hT.2.2.2.2 i hi).2.1 with h0 | ⟨p, _, hp, hel⟩
  · subst h0
    rw [e, hT.2.2.1]
    omega
  · obtain ⟨hpl, _⟩ := hel
    have := hT.2.1
    rw [e, ← hp]
    omega

end Go.Proofs.Ytikplfghepojiaa

namespace Go.Proofs.Ytikplfghepojiaa
open Go.RowKit
set_option linter.unusedVariables false
set_option linter.unusedSimpArgs false

/-- The name of the one at x. -/
def nameI (ts : List Tk) (k : Nat) : ByteArray := match ts[k]? with | some t => t.name | none => ⟨#[]⟩

theorem nameI_at {ts : List Tk} {k : Nat} (h : k < ts.length) : nameI ts k = ts[k].name := by unfold nameI; rw [List.getElem?_eq_getElem h]

noncomputable def elemB (ts : List Tk) (x : Int) : Bool := hasB ts x && !decide ((nameI ts x.toNat).size = 0)

theorem elemB_t {ts : List Tk} {x : Int} (h : elemB ts x = true) : TreeP ts ∧ ∃ k : Nat, x = k ∧ k < ts.length := by
  unfold elemB at h
  rw [Bool.and_eq_true] at h
  exact hasB_t h.1

theorem name_row {w : World} {a : Option Addr} {ts : List Tk} (h : TkRow w a ts) {k : Nat} (hk : k < ts.length) : ∃ b o, a = some ⟨b, o, none⟩ ∧ w.cell? ⟨b, o + k * 4 + 1, none⟩ = some (.string (nameI ts k)) := by
  obtain ⟨b, o, e, _, h1⟩ := h.kindAt k hk
  exact ⟨b, o, e, by rw [nameI_at hk]; exact h1⟩

theorem name_sz {ts : List Tk} (hz : TksSz 1048576 ts) {k : Nat} (hk : k < ts.length) : (nameI ts k).size ≤ 1048576 := by
  rw [nameI_at hk]
  exact (hz _ (List.getElem_mem hk)).1

set_option maxHeartbeats 2000000 in
theorem c_spec_l9Element (a : Option Addr) (cap : Nat) (ts : List Tk) (x : Int) (w : World) (hR : TkRow w a ts) (hn : ts.length ≤ 1048576) (hz : TksSz 1048576 ts) :
    Calls Try.prog 45 #[.slice a ts.length cap, .int .i64 x] w fun e w' => e = .returned (.bool (elemB ts x)) ∧ Below w.heap.size w w' := by
  have C := hid (cHasS a cap ts x w hR hn hz)
  have HR := hid hR
  clear hR
  cases hh : hasB ts x with
  | false =>
    have HE := hid (show elemB ts x = false by unfold elemB; rw [hh]; rfl)
    rw [HE.out]
    rw [hh] at C
    clear hh HE HR hz
    generalize ts.length = n at *
    go_enter Try.func45, Try.ntmps45
    go_wp2_with fail
    refine C.out.mono ?_
    rintro e w1 ⟨rfl, hb1⟩
    have HB1 := hid hb1
    clear hb1 C
    go_wp2_with fail
    go_ret
    exact ⟨rfl, HB1.out⟩
  | true =>
    obtain ⟨hT, k, rfl, hk⟩ := hasB_t hh
    have HE := hid (show elemB ts (k : Int) = !decide ((nameI ts k).size = 0) by unfold elemB; rw [hh]; rfl)
    rw [HE.out]
    rw [hh] at C
    have HROW := hid (fun wx (hb : Below w.heap.size w wx) => name_row (HR.out.below hb) hk)
    obtain ⟨b, o, ea, -⟩ := name_row HR.out hk
    subst ea
    have E := empty_is (nameI ts k)
    have hkn : (k : Int) < (ts.length : Int) := by omega
    clear hh HE HR hz hT
    generalize ts.length = n at *
    generalize nameI ts k = N at *
    generalize decide (N.size = 0) = D at *
    go_enter Try.func45, Try.ntmps45
    go_wp2_with fail
    refine C.out.mono ?_
    rintro e w1 ⟨rfl, hb1⟩
    obtain ⟨b', o', e', c1⟩ := HROW.out _ hb1
    obtain ⟨rfl, rfl⟩ : b = b' ∧ o = o' := by cases e'; exact ⟨rfl, rfl⟩
    have HB1 := hid hb1
    clear hb1 C e' HROW
    go_wp2_with fail
    go_ret
    exact ⟨rfl, HB1.out⟩

end Go.Proofs.Ytikplfghepojiaa

namespace Go.Proofs.Ytikplfghepojiaa
open Go.RowKit
set_option linter.unusedVariables false
set_option linter.unusedSimpArgs false

theorem stopG {p : Prop} (h : Hid p) : p := h

theorem own_setG {w : World} {B : Nat} {a : Option Addr} {l : List At} (h : OwnAts w B a l) {p : Addr} (hp : p.block < B) (u : Value) : OwnAts (w.setCell p u) B a l := fun hl => by
  obtain ⟨g, o, cu, e1, e2, e3, e4⟩ := h hl
  refine ⟨g, o, cu, e1, e2, ?_, e4⟩
  rw [Below.heap_setCell _ _ _ _ (by omega)]
  exact e3

theorem own_lift {w : World} {B B' : Nat} {a : Option Addr} {l : List At} (h : OwnAts w B' a l) (hB : B ≤ B') : OwnAts w B a l := fun hl => by
  obtain ⟨g, o, cu, e1, e2, e3⟩ := h hl
  exact ⟨g, o, cu, e1, Nat.le_trans hB e2, e3⟩

theorem box_set {w : World} {g : Nat} {cur : Array Value} {T : TypeId} (h : w.heap[g]? = some (.cells cur T (0, 0))) (j : Nat) (v : Value) : (w.setCell ⟨g, j, none⟩ v).heap[g]? = some (.cells (cur.setIfInBounds j v) T (0, 0)) := heap_setCell_same w g j cur T v h

theorem node_cells {w : World} {g : Nat} {t : Tk} {a1 : Option Addr} {c1 : Nat} (h : w.heap[g]? = some (.cells #[.int .i64 t.kind, .string t.name, .slice a1 t.attrs.length c1, .string t.text] 34 (0, 0))) :
    ∀ j u, (Nd.cs [⟨t, a1, c1⟩])[j]? = some u → w.cell? ((⟨g, 0, none⟩ : Addr).add j) = some u := by
  intro j u hj
  rw [add_plainW, Nat.zero_add, Lib.cell_of_heap h]
  rw [Nd.cs_one] at hj
  match j, hj with
  | 0, hj => exact hj
  | 1, hj => exact hj
  | 2, hj => exact hj
  | 3, hj => exact hj

/-- append of a node to a row of one's own, its attrs made since. -/
theorem wpL_node (W : World) {ops : Array Oper} {rest : List Oper} {o : Oper} {a : Act} {Q : Exit → Act → World → Prop} (hgd : o.guard = none) (s x : Operand)
    (ho : o.op = .call { callee := .builtin .append, args := #[s, x], argTypes := #[24, 24] }) (base : Nat) (v : Value) (es : List Nd.E) (hs : a.eval s = v) (wr : World) (hrow : Nd.Row wr base v es) (hb0 : base ≤ wr.heap.size) (hB : Below wr.heap.size wr W)
    (t : Tk) (a1 : Option Addr) (c1 g : Nat) (hx : a.eval x = .slice (some ⟨g, 0, none⟩) 1 1) (hg : W.heap[g]? = some (.cells #[.int .i64 t.kind, .string t.name, .slice a1 t.attrs.length c1, .string t.text] 34 (0, 0))) (hA : OwnAts W wr.heap.size a1 t.attrs) (hn : es.length ≤ 1048576)
    (h : ∀ a' c' w', Nd.Row w' base (.slice a' (es ++ [(⟨t, a1, c1⟩ : Nd.E)]).length c') (es ++ [⟨t, a1, c1⟩]) → Below base W w' → wpList Try.prog ops Q rest (a.put o.dst (.slice a' (es ++ [(⟨t, a1, c1⟩ : Nd.E)]).length c')) w') : wpList Try.prog ops Q (o :: rest) a W := by
  have hbW : base ≤ W.heap.size := Nat.le_trans hb0 hB.size
  refine Nd.wpL_join W hgd s x ho base v es [⟨t, a1, c1⟩] hs (hrow.below hB) g 1 1 hx rfl (node_cells hg) (fun e he => ?_) (List.pairwise_singleton _ _) (fun e he f hf => ?_) (by show es.length + 1 ≤ _; omega) hbW (fun a' c' w' h1 h2 _ => h a' c' w' h1 h2)
  · rw [List.mem_singleton] at he
    subst he
    refine ⟨own_lift hA hb0, fun g' o' hl e1 e2 => ?_⟩
    obtain ⟨g2, o2, cu, k1, k2, _⟩ := hA hl
    rw [k1] at e1
    cases e1
    have := (hrow.own.lt _ e2).2
    omega
  · rw [List.mem_singleton] at hf
    subst hf
    intro hl hl' g1 o1 g2 o2 e1 e2 e3
    obtain ⟨k, ko, cu, k1, k2, _⟩ := hA hl'
    obtain ⟨m, mo, cm, m1, m2, m3, _⟩ := (hrow.ats e he).1 hl
    rw [k1] at e2
    rw [m1] at e1
    cases e1
    cases e2
    have := lt_of_heap m3
    omega

/-- The row so far is this one. -/
structure RowOf (w wr : World) (v : Value) (L : List Tk) : Prop where
  row : ∃ es a c, v = .slice a es.length c ∧ Nd.Row wr w.heap.size (.slice a es.length c) es ∧ es.map (·.t) = L
  bel : Below w.heap.size w wr

theorem RowOf.open {w wr : World} {v : Value} {L : List Tk} (h : RowOf w wr v L) : ∃ es a c, v = .slice a es.length c ∧ Nd.Row wr w.heap.size (.slice a es.length c) es ∧ es.map (·.t) = L ∧ es.length = L.length := by
  obtain ⟨es, a, c, e1, e2, e3⟩ := h.row
  exact ⟨es, a, c, e1, e2, e3, by rw [← e3, List.length_map]⟩

theorem RowOf.tk {w wr : World} {v : Value} {L : List Tk} (h : RowOf w wr v L) : ∃ a c, v = .slice a L.length c ∧ TkRow wr a L := by
  obtain ⟨es, a, c, rfl, hr, hm, hl⟩ := h.open
  obtain ⟨a2, c2, e, ht⟩ := hr.tkRow
  cases e
  rw [hm] at ht
  exact ⟨a, c, by rw [hl], ht⟩

theorem RowOf.start {w wr : World} (hb : Below w.heap.size w wr) {g : Nat} (hg : w.heap.size ≤ g) (hh : wr.heap[g]? = some (.cells #[] 34 (0, 0))) : RowOf w wr (.slice (some ⟨g, 0, none⟩) 0 0) [] :=
  ⟨⟨[], _, _, rfl, Nd.Row.start _ _ _ hg hh, rfl⟩, hb⟩

theorem RowOf.below {w wr w' : World} {v : Value} {L : List Tk} (h : RowOf w wr v L) (hb : Below wr.heap.size wr w') : RowOf w w' v L := by
  obtain ⟨es, a, c, e1, e2, e3⟩ := h.row
  exact ⟨⟨es, a, c, e1, e2.below hb, e3⟩, bb h.bel hb⟩

theorem RowOf.more {w w' : World} {es : List Nd.E} {a : Option Addr} {c : Nat} {L : List Tk} {t : Tk} {a1 : Option Addr} {c1 : Nat} (hm : es.map (·.t) = L) (h : Nd.Row w' w.heap.size (.slice a (es ++ [(⟨t, a1, c1⟩ : Nd.E)]).length c) (es ++ [⟨t, a1, c1⟩])) (hb : Below w.heap.size w w') : RowOf w w' (.slice a (es ++ [(⟨t, a1, c1⟩ : Nd.E)]).length c) (L ++ [t]) :=
  ⟨⟨_, a, c, rfl, h, by rw [List.map_append, hm]; rfl⟩, hb⟩

/-- append of a node to such a row. -/
theorem wpL_row (w wr W : World) {ops : Array Oper} {rest : List Oper} {o : Oper} {a : Act} {Q : Exit → Act → World → Prop} (hgd : o.guard = none) (s x : Operand)
    (ho : o.op = .call { callee := .builtin .append, args := #[s, x], argTypes := #[24, 24] }) (v : Value) (L : List Tk) (hs : a.eval s = v) (hrow : RowOf w wr v L) (hB : Below wr.heap.size wr W)
    (t : Tk) (a1 : Option Addr) (c1 g nA : Nat) (hx : a.eval x = .slice (some ⟨g, 0, none⟩) 1 1) (hnA : t.attrs.length = nA) (hg : W.heap[g]? = some (.cells #[.int .i64 t.kind, .string t.name, .slice a1 nA c1, .string t.text] 34 (0, 0))) (hA : OwnAts W wr.heap.size a1 t.attrs) (hn : L.length ≤ 1048576)
    (h : ∀ v' w', RowOf w w' v' (L ++ [t]) → wpList Try.prog ops Q rest (a.put o.dst v') w') : wpList Try.prog ops Q (o :: rest) a W := by
  obtain ⟨es, a8, c8, rfl, hr, hm, hl⟩ := hrow.open
  subst hnA
  refine wpL_node W hgd s x ho w.heap.size _ es hs wr hr hrow.bel.size hB t a1 c1 g hx hg hA (by omega) (fun a' c' w' h1 h2 => h _ w' (RowOf.more hm h1 ((hrow.bel.trans (hB.mono hrow.bel.size)).trans h2)))

set_option maxRecDepth 4000 in
set_option maxHeartbeats 4000000 in
theorem cCopyT (a : Option Addr) (cap : Nat) (ts : List Tk) (w : World) (hR : TkRow w a ts) (hn : ts.length ≤ 1048576) (hz : TksSz 1048576 ts) :
    Calls Try.prog 41 #[.slice a ts.length cap] w fun e w' => ∃ v, e = .returned v ∧ RowOf w w' v ts := by
  have HR := hid hR
  have HZ := hid hz
  have HB0 := hid ((Below.refl w.heap.size w).alloc (Nat.le_refl _) (.cells #[] 34))
  have M0 := hid (heap_alloc_new w (.cells #[] 34))
  clear hR hz
  obtain ⟨n, hnn⟩ : ∃ n, ts.length = n := ⟨_, rfl⟩
  have HN := hid hnn
  rw [hnn] at hn ⊢
  clear hnn
  go_enter Try.func41, Try.ntmps41
  go_wp2_with fail
  go_loopw [3, 4] (fun v k wr => ∃ i : Nat, k = .int .i64 (i : Int) ∧ i ≤ n ∧ Hid (RowOf w wr v (ts.take i))) (fun _ k _ => n - (intOf k).toNat)
  case atStart => exact ⟨0, rfl, Nat.zero_le _, by rw [List.take_zero]; exact RowOf.start HB0.out (Nat.le_refl _) M0.out⟩
  case round =>
    clear HB0 M0
    obtain ⟨i, rfl, hi, HX⟩ := hrel
    by_cases hlt : i < n
    · have his : i < ts.length := by rw [HN.out]; exact hlt
      have hin : (i : Int) < (n : Int) := by omega
      have HTS := hid (take_snocN his)
      have HLT := hid (show (ts.take i).length ≤ 1048576 by rw [List.length_take]; omega)
      have HZT := hid (HZ.out _ (List.getElem_mem his))
      obtain ⟨b, o, aa, ca, e', hb, q0, q1, q2, q3, hA⟩ := (HR.out.below HX.out.bel) i his
      subst e'
      have HAT := hid hA
      obtain ⟨t, ht⟩ : ∃ t, ts[i] = t := ⟨_, rfl⟩
      rw [ht] at q0 q1 q2 q3 HAT HZT HTS
      clear ht hA
      obtain ⟨nA, hnA⟩ : ∃ nA, t.attrs.length = nA := ⟨_, rfl⟩
      have HNA := hid hnA
      rw [hnA] at q2
      clear hnA
      have HL1 := hid ((Below.refl wr.heap.size wr).alloc (Nat.le_refl _) (.cells #[.int .i64 t.kind, .string t.name, .slice aa nA ca, .string t.text] 34))
      have M1 := hid (heap_alloc_new wr (.cells #[.int .i64 t.kind, .string t.name, .slice aa nA ca, .string t.text] 34))
      have CC := hid (fun wx (h : AtRow wx aa t.attrs) => cCopyS aa ca t.attrs wx h HZT.out.2.1)
      rw [HNA.out] at CC
      go_wp2_with fail
      refine (CC.out _ (HAT.out.below HL1.out)).mono ?_
      rintro e w2 ⟨a1, c1, rfl, ha1, hb2⟩
      have HA1 := hid (show OwnAts w2 (wr.heap.size + 1) a1 t.attrs by simpa using ha1)
      have HL2 := hid (bb HL1.out hb2)
      have M2 := hid (blk_below M1.out hb2)
      obtain ⟨⟨x0, x1, x2, x3⟩, f0, f1, f2, f3⟩ := box4 M2.out
      clear ha1 hb2 CC HL1 M1 q0 q1 q2 q3 hb
      have HS3 := hid (HL2.out.setCell (p := ⟨wr.heap.size, 2, none⟩) (Nat.le_refl _) (.slice a1 nA c1))
      have HA3 := hid (own_lift (own_setG HA1.out (p := ⟨wr.heap.size, 2, none⟩) (Nat.lt_succ_self _) (.slice a1 nA c1)) (Nat.le_succ _))
      have M3 := hid (box_set M2.out 2 (.slice a1 nA c1))
      obtain ⟨w3, hw3⟩ : ∃ w3, w2.setCell ⟨wr.heap.size, 2, none⟩ (.slice a1 nA c1) = w3 := ⟨_, rfl⟩
      rw [hw3] at HS3 HA3 M3
      obtain ⟨⟨y0, y1, y2, y3⟩, _⟩ := box4 M3.out
      have HM4 := hid (heap_alloc_new w3 (.cells #[.int .i64 t.kind, .string t.name, .slice a1 nA c1, .string t.text] 34))
      have HB4 := hid (HS3.out.alloc HS3.out.size (.cells #[.int .i64 t.kind, .string t.name, .slice a1 nA c1, .string t.text] 34))
      have HA4 := hid (HA3.out.below ((Below.refl _ _).alloc (Nat.le_refl _) (.cells #[.int .i64 t.kind, .string t.name, .slice a1 nA c1, .string t.text] 34)))
      go_wp2_with (at_builtin; refine wpL_row w wr _ rfl _ _ rfl _ (ts.take i) rfl HX.out HB4.out t a1 c1 w3.heap.size nA rfl HNA.out HM4.out HA4.out HLT.out ?_)
      intro v5 w5 hr5
      have HR5 := hid hr5
      rw [← HTS.out] at HR5
      clear hr5 x0 x1 x2 x3 y0 y1 y2 y3 hw3
      go_wp2_with fail
      go_roundw
      case rel => exact ⟨i + 1, by go_num, by omega, HR5.out⟩
      case measure => simp [intOf]; omega
    · have hie : i = n := by omega
      subst hie
      have HY := hid (show RowOf w wr u3 ts by
        have h := HX.out
        rw [List.take_of_length_le (by rw [HN.out]; exact Nat.le_refl _)] at h
        exact h)
      clear HX
      go_wp2_with fail
      go_ret
      exact ⟨_, rfl, HY.out⟩

end Go.Proofs.Ytikplfghepojiaa
