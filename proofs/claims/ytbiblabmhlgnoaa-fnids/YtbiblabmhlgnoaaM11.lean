/- Identifiers: what the document says of them, as functions of the nodes. Contracts of l8Kids, KidsOf, l8Text and TextIn of the specification. Rows of nodes, as the exact laws size, copy and compare them. -/
import Derived.Test.YtbiblabmhlgnoaaM10
import Derived.Test.YtbiblabmhlgnoaaM9
import Derived.Test.YtbiblabmhlgnoaaM3
import Derived.OwnWalk
namespace Go.Proofs.Ytbiblabmhlgnoaa
open Go.RowKit
set_option linter.unusedVariables false
set_option linter.unusedSimpArgs false

def idS : ByteArray := ⟨#[73, 100]⟩
def idLS : ByteArray := ⟨#[97, 98, 99, 100, 101, 102, 103, 104, 105, 106, 107, 108, 109, 110, 111, 112, 113, 114, 115, 116, 117, 118, 119, 120, 121, 122, 48, 49, 50, 51, 52, 53, 54, 55, 56, 57]⟩

/-- A text that may be an identifier. -/
def idOk (s : ByteArray) : Bool := !decide (s.size = 0) && ofB idLS 12 s

/-- The identifier of that node. -/
def idAt (ts : List Tk) (k : Nat) : Option ByteArray := (ts[k]?).bind fun t => valF t.attrs idS

theorem idAt_at {ts : List Tk} {k : Nat} (h : k < ts.length) : idAt ts k = valF ts[k].attrs idS := by
  unfold idAt
  rw [List.getElem?_eq_getElem h]
  rfl

/-- The identifiers of the nodes before e, in their order. -/
def idsTo (ts : List Tk) (e : Nat) : List ByteArray := (List.range e).filterMap (idAt ts)

theorem idsTo_next (ts : List Tk) (e : Nat) : idsTo ts (e + 1) = idsTo ts e ++ (idAt ts e).toList := by
  unfold idsTo
  rw [List.range_succ, List.filterMap_append]
  cases h : idAt ts e with
  | none => rw [List.filterMap_cons_none h]; rfl
  | some v => rw [List.filterMap_cons_some h]; rfl

theorem idsTo_none {ts : List Tk} {e : Nat} (h : idAt ts e = none) : idsTo ts (e + 1) = idsTo ts e := by
  rw [idsTo_next, h]
  exact List.append_nil _

theorem idsTo_some {ts : List Tk} {e : Nat} {v : ByteArray} (h : idAt ts e = some v) : idsTo ts (e + 1) = idsTo ts e ++ [v] := by
  rw [idsTo_next, h]
  rfl

theorem idsTo_len (ts : List Tk) (e : Nat) : (idsTo ts e).length ≤ e := by
  have := List.length_filterMap_le (idAt ts) (List.range e)
  rw [List.length_range] at this
  exact this

theorem mem_idsTo {ts : List Tk} {e : Nat} {v : ByteArray} : v ∈ idsTo ts e ↔ ∃ k, k < e ∧ idAt ts k = some v := by
  unfold idsTo
  rw [List.mem_filterMap]
  exact ⟨fun ⟨k, h, q⟩ => ⟨k, List.mem_range.1 h, q⟩, fun ⟨k, h, q⟩ => ⟨k, List.mem_range.2 h, q⟩⟩

/-- All before e are right, and no two are alike. -/
def IdsP (ts : List Tk) (e : Nat) : Prop := (∀ v ∈ idsTo ts e, idOk v = true) ∧ (idsTo ts e).Nodup

theorem idsP_zero (ts : List Tk) : IdsP ts 0 := ⟨fun v h => absurd h List.not_mem_nil, List.nodup_nil⟩

theorem idsP_none {ts : List Tk} {e : Nat} (h : idAt ts e = none) (hP : IdsP ts e) : IdsP ts (e + 1) := by
  unfold IdsP
  rw [idsTo_none h]
  exact hP

theorem idsP_some {ts : List Tk} {e : Nat} {v : ByteArray} (h : idAt ts e = some v) (hP : IdsP ts e) (ho : idOk v = true) (hf : ¬ v ∈ idsTo ts e) : IdsP ts (e + 1) := by
  unfold IdsP
  rw [idsTo_some h]
  refine ⟨fun x hx => ?_, ?_⟩
  · rcases List.mem_append.1 hx with h' | h'
    · exact hP.1 x h'
    · rw [List.mem_singleton.1 h']; exact ho
  · rw [List.nodup_append]
    refine ⟨hP.2, by simp, fun x hx y hy => ?_⟩
    rw [List.mem_singleton.1 hy]
    exact fun e => hf (e ▸ hx)

theorem idsP_step {ts : List Tk} {e : Nat} (h : IdsP ts (e + 1)) : IdsP ts e := by
  unfold IdsP at h
  rw [idsTo_next] at h
  exact ⟨fun v hv => h.1 v (List.mem_append_left _ hv), (List.nodup_append.1 h.2).1⟩

theorem idsP_le {ts : List Tk} {e : Nat} : ∀ n, e ≤ n → IdsP ts n → IdsP ts e
  | 0, h, hP => by
    have : e = 0 := by omega
    subst this
    exact hP
  | n + 1, h, hP => by
    rcases Nat.lt_or_ge n e with h' | h'
    · have : e = n + 1 := by omega
      subst this
      exact hP
    · exact idsP_le n h' (idsP_step hP)

theorem idsP_bad {ts : List Tk} {e n : Nat} {v : ByteArray} (h : idAt ts e = some v) (he : e < n) (hb : idOk v = false ∨ v ∈ idsTo ts e) : ¬ IdsP ts n := by
  intro hP
  have h1 := idsP_le (e := e + 1) n he hP
  unfold IdsP at h1
  rw [idsTo_some h] at h1
  rcases hb with h' | h'
  · have := h1.1 v (by simp)
    rw [h'] at this
    cases this
  · exact (List.nodup_append.1 h1.2).2.2 v h' v (by simp) rfl

/-- No two nodes have the same identifier. -/
theorem ids_one {ts : List Tk} : ∀ {n : Nat}, IdsP ts n → ∀ {j k : Nat} {v : ByteArray}, j < n → k < n → idAt ts j = some v → idAt ts k = some v → j = k := by
  intro n hP j k v hj hk h1 h2
  rcases Nat.lt_trichotomy j k with h' | h' | h'
  · exact absurd hP (idsP_bad h2 hk (.inr (mem_idsTo.2 ⟨j, h', h1⟩)))
  · exact h'
  · exact absurd hP (idsP_bad h1 hj (.inr (mem_idsTo.2 ⟨k, h', h2⟩)))

noncomputable def idsB (ts : List Tk) : Bool := open Classical in decide (IdsP ts ts.length) && treeB ts

theorem idsB_f {ts : List Tk} (h : ¬ IdsP ts ts.length) : idsB ts = false := by unfold idsB; simp [h]

theorem idsB_is {ts : List Tk} (h : IdsP ts ts.length) : idsB ts = treeB ts := by unfold idsB; simp [h]

theorem idsB_t {ts : List Tk} (h : idsB ts = true) : IdsP ts ts.length ∧ treeB ts = true := by
  by_cases q : IdsP ts ts.length
  · exact ⟨q, by rw [← idsB_is q]; exact h⟩
  · rw [idsB_f q] at h; cases h

/-- Where the identifier stands, or -1. -/
def findN (ts : List Tk) (id : ByteArray) (n : Nat) : Int := match (List.range n).find? (fun k => decide (idAt ts k = some id)) with | some k => (k : Int) | none => -1

theorem findN_none {ts : List Tk} {id : ByteArray} {n : Nat} (h : ∀ j, j < n → ¬ idAt ts j = some id) : findN ts id n = -1 := by
  unfold findN
  rw [List.find?_eq_none.2 (fun x hx => by simpa using h x (List.mem_range.1 hx))]

theorem findN_at {ts : List Tk} {id : ByteArray} {n k : Nat} (hk : k < n) (h : ∀ j, j < k → ¬ idAt ts j = some id) (he : idAt ts k = some id) : findN ts id n = (k : Int) := by
  have e : (List.range n).find? (fun k => decide (idAt ts k = some id)) = some k := by
    rw [List.find?_range_eq_some]
    exact ⟨by simpa using he, List.mem_range.2 hk, fun j hj => by simpa using h j hj⟩
  unfold findN
  rw [e]

noncomputable def findI (ts : List Tk) (id : ByteArray) : Int := if idsB ts = true then findN ts id ts.length else -1

/-- The identifier of that node, or none. -/
noncomputable def idI (ts : List Tk) (x : Int) : ByteArray := if idsB ts = true ∧ 0 ≤ x ∧ x < ts.length then (idAt ts x.toNat).getD ByteArray.empty else ByteArray.empty

/-- The elements before e that bear that name. -/
noncomputable def allTo (ts : List Tk) (l m : ByteArray) (e : Nat) : List Nat := (List.range e).filter fun k => !decide ((nameI ts k).size = 0) && knownN ts k l m

theorem allTo_next (ts : List Tk) (l m : ByteArray) (e : Nat) : allTo ts l m (e + 1) = allTo ts l m e ++ (if (!decide ((nameI ts e).size = 0) && knownN ts e l m) = true then [e] else []) := by
  unfold allTo
  rw [List.range_succ, List.filter_append]
  congr 1
  cases q : (!decide ((nameI ts e).size = 0) && knownN ts e l m) with
  | false => rw [List.filter_cons_of_neg (by rw [q]; exact Bool.false_ne_true)]; rfl
  | true => rw [List.filter_cons_of_pos (by rw [q])]; rfl

theorem allTo_len (ts : List Tk) (l m : ByteArray) (e : Nat) : (allTo ts l m e).length ≤ e := by
  have := List.length_filter_le (fun k => !decide ((nameI ts k).size = 0) && knownN ts k l m) (List.range e)
  rw [List.length_range] at this
  exact this

noncomputable def allI (ts : List Tk) (l m : ByteArray) : List Nat := if namesB ts = true then allTo ts l m ts.length else []

theorem allI_len (ts : List Tk) (l m : ByteArray) : (allI ts l m).length ≤ ts.length := by
  unfold allI
  split
  · exact allTo_len ts l m _
  · exact Nat.zero_le _

end Go.Proofs.Ytbiblabmhlgnoaa

namespace Go.Proofs.Ytbiblabmhlgnoaa
open Go.RowKit
set_option linter.unusedVariables false
set_option linter.unusedSimpArgs false

/-- Nodes up to e whose parent it is. -/
def kidsTo (ts : List Tk) (k e : Nat) : List Nat := (List.range e).filter fun i => decide (k < i) && decide (parI ts i = (k : Int))

/-- Nodes whose parent it is. -/
def kidsN (ts : List Tk) (k : Nat) : List Nat := kidsTo ts k ts.length

theorem kidsTo_first (ts : List Tk) (k : Nat) : kidsTo ts k (k + 1) = [] := by
  unfold kidsTo
  rw [List.filter_eq_nil_iff]
  intro i hi
  have := List.mem_range.1 hi
  simp
  omega

theorem kidsTo_next {ts : List Tk} {k e : Nat} (h : k < e) : kidsTo ts k (e + 1) = kidsTo ts k e ++ (if parI ts e = (k : Int) then [e] else []) := by
  unfold kidsTo
  rw [List.range_succ, List.filter_append]
  congr 1
  by_cases q : parI ts e = (k : Int)
  · simp [h, q]
  · simp [q]

theorem kidsTo_len (ts : List Tk) (k e : Nat) : (kidsTo ts k e).length ≤ e := by
  have := List.length_filter_le (fun i => decide (k < i) && decide (parI ts i = (k : Int))) (List.range e)
  rw [List.length_range] at this
  exact this

theorem kidsN_lt {ts : List Tk} {k i : Nat} (h : i ∈ kidsN ts k) : i < ts.length := List.mem_range.1 (List.mem_filter.1 h).1

/-- Numbers as cells. -/
def intC (l : List Nat) : List Value := l.map fun (i : Nat) => .int .i64 (i : Int)

theorem intC_len (l : List Nat) : (intC l).length = l.length := by simp [intC]

theorem intC_app (l m : List Nat) : intC (l ++ m) = intC l ++ intC m := by simp [intC]

theorem info64 : (Try.prog.info? 2).map (fun i => (i.zero, i.size, i.bytes)) = some (some (.int .i64 0), 1, 8) := by kernel_rfl

theorem one_cell64 (w : World) (v : Value) : ∀ j u, [v][j]? = some u → (w.alloc (.cells #[v] 2)).cell? ((⟨w.heap.size, 0, none⟩ : Addr).add j) = some u := by
  intro j u hj
  match j, hj with
  | 0, hj => simp at hj; subst hj; simp [Addr.add]

theorem one_one64 (n : Int) : ∀ u ∈ [Value.int .i64 n], u.oneCell' = true := by
  intro u hu; simp at hu; subst hu; rfl

/-- A cell of a row of numbers of our own. -/
theorem row64 {w : World} {B : Nat} {v : Value} {l : List Nat} (h : w.ownsRow B 2 1 v l.length (intC l)) : (∃ a cap, v = .slice a l.length cap) ∧ ∀ i (hi : i < l.length), ∃ g cap, v = .slice (some ⟨g, 0, none⟩) l.length cap ∧ g < w.heap.size ∧ w.cell? ⟨g, i, none⟩ = some (.int .i64 (l[i] : Int)) := by
  rcases h.2 with ⟨rfl, h0⟩ | ⟨g, cap, cur, rfl, hg, hh, hn, hc, hs, ht⟩
  · have : l = [] := List.eq_nil_of_length_eq_zero h0
    subst this
    exact ⟨⟨none, 0, rfl⟩, fun i hi => absurd hi (Nat.not_lt_zero _)⟩
  · refine ⟨⟨_, _, rfl⟩, fun i hi => ⟨g, cap, rfl, lt_of_heap hh, ?_⟩⟩
    rw [Lib.cell_of_heap hh, ← Array.getElem?_toList]
    have hk : (intC l)[i]? = some (.int .i64 (l[i] : Int)) := by
      unfold intC
      rw [List.getElem?_map, List.getElem?_eq_getElem hi]
      rfl
    rw [← ht, List.getElem?_take] at hk
    split at hk
    · exact hk
    · cases hk

theorem row64_mono {w : World} {B B' n : Nat} {v : Value} {xs : List Value} {e : TypeId} (h : w.ownsRow B' e 1 v n xs) (hB : B ≤ B') : w.ownsRow B e 1 v n xs := by
  refine ⟨h.1, ?_⟩
  rcases h.2 with h' | ⟨g, cap, cur, h1, h2, h3⟩
  · exact .inl h'
  · exact .inr ⟨g, cap, cur, h1, Nat.le_trans hB h2, h3⟩

noncomputable def kidsI (ts : List Tk) (x : Int) : List Nat := if hasB ts x = true then kidsN ts x.toNat else []

def textAt (ts : List Tk) (k : Nat) : ByteArray := match ts[k]? with | some t => t.text | none => ⟨#[]⟩

theorem textAt_at {ts : List Tk} {k : Nat} (h : k < ts.length) : textAt ts k = ts[k].text := by unfold textAt; rw [List.getElem?_eq_getElem h]

/-- The texts of these, one behind the other. -/
def joinT (ts : List Tk) (ks : List Nat) : ByteArray := ks.foldl (fun s k => s ++ textAt ts k) ⟨#[]⟩

theorem joinT_snoc (ts : List Tk) (ks : List Nat) (k : Nat) : joinT ts (ks ++ [k]) = joinT ts ks ++ textAt ts k := by simp [joinT]

theorem tree_text {ts : List Tk} (h : TreeP ts) (k : Nat) : (textAt ts k).size ≤ 60 := by
  by_cases hk : k < ts.length
  · rw [textAt_at hk]
    obtain ⟨⟨_, hb⟩, _⟩ := h.2.2.2.2 k hk
    by_cases e : ts[k].name.size = 0
    · rw [nodeB_tx e] at hb
      simp only [Bool.and_eq_true, textB, decide_eq_true_eq] at hb
      exact hb.2.2.2
    · rw [nodeB_el e] at hb
      simp only [Bool.and_eq_true, decide_eq_true_eq] at hb
      omega
  · unfold textAt
    rw [List.getElem?_eq_none (by omega)]
    exact Nat.zero_le _

theorem joinT_size {ts : List Tk} (h : ∀ k, (textAt ts k).size ≤ 60) (ks : List Nat) : (joinT ts ks).size ≤ 60 * ks.length := by
  have H : ∀ (ks : List Nat) (s : ByteArray), (ks.foldl (fun s k => s ++ textAt ts k) s).size ≤ s.size + 60 * ks.length := by
    intro ks
    induction ks with
    | nil => intro s; simp
    | cons k ks ih =>
      intro s
      have := ih (s ++ textAt ts k)
      have h2 := h k
      rw [ByteArray.size_append] at this
      simp only [List.foldl_cons, List.length_cons]
      omega
  have := H ks ⟨#[]⟩
  rw [show (⟨#[]⟩ : ByteArray).size = 0 from rfl] at this
  unfold joinT
  omega

noncomputable def textI (ts : List Tk) (x : Int) : ByteArray := if hasB ts x = true then joinT ts (kidsN ts x.toNat) else ⟨#[]⟩

end Go.Proofs.Ytbiblabmhlgnoaa

namespace Go.Proofs.Ytbiblabmhlgnoaa.Nd
open Go.RowKit
set_option linter.unusedVariables false
set_option linter.unusedSimpArgs false

/-- How many attrs they have together. -/
def sumA (ts : List Tk) : Nat := (ts.map fun t => t.attrs.length).sum

theorem sumA_snoc (ts : List Tk) (t : Tk) : sumA (ts ++ [t]) = sumA ts + t.attrs.length := by simp [sumA]

set_option maxHeartbeats 2000000 in
theorem cSzNodeL (t : Tk) (a : Option Addr) (cap L : Nat) (w : World) (hR : AtRow w a t.attrs) (hs : TkSz maxLen t) (hL : L ≤ 1048576) :
    Calls Try.prog 52 #[tkV t a cap, .int .i64 L] w fun e w' => ∃ r : Int, e = .returned (.int .i64 r) ∧ (r = -1 ∨ 0 ≤ r ∧ r + t.attrs.length ≤ L ∧ TkSz L t) ∧ Below w.heap.size w w' := by
  obtain ⟨k, name, l, text⟩ := t
  obtain ⟨h1, h2, h3, h4⟩ := hs
  simp only at hR h1 h2 h3 h4
  have HR := hid (hR.below ((Below.refl w.heap.size w).alloc (Nat.le_refl _) (.cells #[.int .i64 k, .string name, .slice a l.length cap, .string text] 71)))
  have C := fun (M : Nat) (hM : M ≤ 1048576) (w : World) (hR : AtRow w a l) => cSzAttrS2 a cap l M w hR h3 h2 hM
  clear hR h3 h2
  have HT : Hid (∀ M : Nat, M ≤ L → name.size ≤ L → l.length ≤ M → AtSz M l → text.size ≤ L → TkSz L ⟨k, name, l, text⟩) :=
    fun M hM a b c d => ⟨a, by show l.length ≤ L; omega, fun x hx => by have := c x hx; omega, d⟩
  simp only [tkV]
  obtain ⟨n, hn⟩ : ∃ n, l.length = n := ⟨_, rfl⟩
  have HNL := hid hn
  rw [hn] at C HR HT ⊢
  clear hn
  unfold maxLen at h1 h4
  by_cases g1 : (L : Int) - name.size < 0
  · clear C
    go_enter Try.func52, Try.ntmps52
    go_wp2
    go_ret
    exact ⟨-1, rfl, .inl rfl, (Below.refl _ _).alloc (Nat.le_refl _) _⟩
  · obtain ⟨M, hM⟩ : ∃ M : Nat, (L : Int) - name.size = M := ⟨L - name.size, by omega⟩
    have hM1 : M ≤ 1048576 := by omega
    have C := C M hM1
    have e1 : wrap64 ((L : Int) - (name.size : Int)) = (M : Int) := (IntWalk.wrap64_in _ (by omega)).trans hM
    have e2 : IntKind.i64.wrap ((L : Int) - (name.size : Int)) = (M : Int) := (IntWalk.i64_in _ (by omega)).trans hM
    have hn1 : name.size ≤ L := by omega
    have hML : M ≤ L := by omega
    have HM := hid hM
    clear hM g1
    go_enter Try.func52, Try.ntmps52
    go_wp2_with fail
    refine (C _ HR.out).mono ?_
    rintro e w1 ⟨r, rfl, hr, hb1⟩
    obtain ⟨hc, hf⟩ := bcell hb1
    have HB1 := hid (((Below.refl w.heap.size w).alloc (Nat.le_refl _) _).trans (hb1.mono (by simp)))
    rcases hr with rfl | ⟨r0, r1, r2, r3, r4⟩
    · go_wp2_with fail
      go_ret
      exact ⟨-1, rfl, .inl rfl, HB1.out⟩
    · obtain ⟨R, rfl⟩ : ∃ R : Nat, r = R := ⟨r.toNat, by omega⟩
      have H3 := hid r3
      clear r3
      by_cases g2 : (R : Int) - text.size < 0
      · go_wp2
        go_ret
        exact ⟨-1, rfl, .inl rfl, HB1.out⟩
      · go_wp2
        go_ret
        exact ⟨(R : Int) - text.size, rfl, .inr ⟨by omega, by omega, HT.out M hML hn1 r2 H3.out (by omega)⟩, HB1.out⟩

set_option maxRecDepth 8000 in
set_option maxHeartbeats 2000000 in
theorem cSzNodeS (a : Option Addr) (cap : Nat) (ts : List Tk) (w : World) (hR : TkRow w a ts) (hz : TksSz maxLen ts) (hn : ts.length ≤ maxLen) :
    Calls Try.prog 24 #[.slice a ts.length cap, .int .i64 1048576] w fun e w' => ∃ r : Int, e = .returned (.int .i64 r) ∧ (r = -1 ∨ 0 ≤ r ∧ ts.length ≤ 1048576 ∧ TksSz 1048576 ts ∧ sumA ts ≤ 1048576) ∧ Below w.heap.size w w' := by
  have HR := hid hR
  have HZ := hid hz
  clear hR hz
  unfold maxLen at hn
  obtain ⟨n, hnn⟩ : ∃ n, ts.length = n := ⟨_, rfl⟩
  have HN := hid hnn
  rw [hnn] at hn ⊢
  clear hnn
  by_cases h1 : (1048576 : Int) - n < 0
  · go_enter Try.func24, Try.ntmps24
    go_wp2
    go_ret
    exact ⟨-1, rfl, .inl rfl, Below.refl _ _⟩
  · go_enter Try.func24, Try.ntmps24
    go_wp2
    go_loopw [1, 5] (fun v k wr => ∃ (i M : Nat), k = .int .i64 (i : Int) ∧ i ≤ n ∧ v = .int .i64 (M : Int) ∧ M + sumA (ts.take i) ≤ 1048576 ∧ Hid (TksSz 1048576 (ts.take i)) ∧ Hid (Below w.heap.size w wr)) (fun _ k _ => n - (intOf k).toNat)
    case atStart => exact ⟨0, 1048576 - n, rfl, Nat.zero_le _, by go_num, by rw [List.take_zero]; show 1048576 - n + 0 ≤ 1048576; omega, fun s hs => by simp at hs, Below.refl _ _⟩
    case round =>
      obtain ⟨i, M, rfl, hi, rfl, hM, HA, HB⟩ := hrel
      by_cases hlt : i < n
      · have his : i < ts.length := by rw [HN.out]; exact hlt
        obtain ⟨b, o, aa, ca, rfl, hb, c0, c1, c2, c3, cr⟩ := HR.out.below HB.out i his
        have hin : (i : Int) < (n : Int) := by omega
        have HT := hid (take_snocN his)
        have CR := hid cr
        have C := hid (cSzNodeL ts[i] aa ca M wr cr (HZ.out _ (List.getElem_mem his)) (by omega))
        have HSM := hid (show sumA (ts.take (i + 1)) = sumA (ts.take i) + ts[i].attrs.length by rw [take_snocN his, sumA_snoc])
        generalize sumA (ts.take i) = sm at *
        have HE : Hid (TkSz M ts[i] → TksSz 1048576 (ts.take (i + 1))) := by
          intro h
          rw [HT.out]
          intro s hs
          rcases List.mem_append.1 hs with h' | h'
          · exact HA.out s h'
          · rw [List.mem_singleton] at h'
            subst h'
            obtain ⟨p1, p2, p3, p4⟩ := h
            exact ⟨by omega, by omega, fun x hx => by have := p3 x hx; omega, by omega⟩
        clear cr
        simp only [tkV] at C
        generalize ts[i] = t at *
        go_wp2_with fail
        refine C.out.mono ?_
        rintro e w2 ⟨r, rfl, hr, hb2⟩
        have HB2 := hid (bb HB.out hb2)
        clear hb2 C c0 c1 c2 c3
        rcases hr with rfl | ⟨h0, hr, hz⟩
        · go_wp2_with fail
          go_ret
          exact ⟨-1, rfl, .inl rfl, HB2.out⟩
        · obtain ⟨R, rfl⟩ : ∃ R : Nat, r = R := ⟨r.toNat, by omega⟩
          have HZ2 := hid (HE.out hz)
          clear hz
          go_wp2_with fail
          go_roundw
          case rel => exact ⟨i + 1, R, by go_num, by omega, rfl, by rw [HSM.out]; omega, HZ2.out, HB2.out⟩
          case measure => simp [intOf]; omega
      · have hie : i = n := by omega
        subst hie
        have h2 := HA.out
        rw [List.take_of_length_le (by rw [HN.out]; exact Nat.le_refl _)] at h2
        have H2 := hid h2
        have HM2 := hid hM
        rw [List.take_of_length_le (by rw [HN.out]; exact Nat.le_refl _)] at HM2
        clear h2 hM
        go_wp2_with fail
        go_ret
        exact ⟨M, rfl, .inr ⟨by omega, by omega, H2.out, by have := HM2.out; omega⟩, HB.out⟩

set_option maxHeartbeats 2000000 in
theorem cToNode2 (t : Tk) (a : Option Addr) (cap : Nat) (w : World) (hR : AtRow w a t.attrs) (hn : t.attrs.length ≤ 1048576) :
    Calls Try.prog 53 #[tkV t a cap] w fun e w' => ∃ g cu, w.heap.size ≤ g ∧ e = .returned (tkV t (some ⟨g, 0, none⟩) t.attrs.length) ∧ w'.heap[g]? = some (.cells cu 66 (0, 0)) ∧ AtCells cu 0 t.attrs ∧ Below w.heap.size w w' := by
  obtain ⟨k, name, l, text⟩ := t
  simp only at hR hn
  simp only [tkV]
  obtain ⟨b1, b2, b3⟩ := heap3 w (.cells #[.int .i64 k, .string name, .slice a l.length cap, .string text] 71) (.cells #[.int .i64 0, .string ⟨#[]⟩, .slice none 0 0, .string ⟨#[]⟩] 56) (.cells #[.int .i64 k, .string name, .slice none 0 0, .string ⟨#[]⟩] 56)
  have HB0 := hid ((((Below.refl w.heap.size w).alloc (Nat.le_refl _) (.cells #[.int .i64 k, .string name, .slice a l.length cap, .string text] 71)).alloc (by simp) (.cells #[.int .i64 0, .string ⟨#[]⟩, .slice none 0 0, .string ⟨#[]⟩] 56)).alloc (by simp; omega) (.cells #[.int .i64 k, .string name, .slice none 0 0, .string ⟨#[]⟩] 56))
  have HR := hid (hR.below HB0.out)
  have C := fun (w : World) (hR : AtRow w a l) => cToAttrS2 a cap l w hR hn
  have H1 := hid b1
  have H2 := hid b2
  have H3 := hid b3
  clear b1 b2 b3 hR
  obtain ⟨n, hn⟩ : ∃ n, l.length = n := ⟨_, rfl⟩
  rw [hn] at C HR HB0 H1 H2 H3 ⊢
  clear hn
  go_enter Try.func53, Try.ntmps53
  go_wp2_with fail
  refine (C _ HR.out).mono ?_
  rintro e w1 ⟨g, cu, hg, rfl, hG1, hR1, hb1⟩
  have HR1 := hid hR1
  have HG1 := hid hG1
  have HB1 := hid (bb HB0.out hb1)
  obtain ⟨⟨x0, x1, x2, x3⟩, _⟩ := box4 (blk_below H1.out hb1)
  obtain ⟨⟨y0, y1, y2, y3⟩, yf0, yf1, yf2, yf3⟩ := box4 (blk_below H2.out hb1)
  obtain ⟨⟨z0, z1, z2, z3⟩, zf0, zf1, zf2, zf3⟩ := box4 (blk_below H3.out hb1)
  have hgw : w.heap.size + 3 ≤ g := by simpa using hg
  clear hR1 hG1 hb1 HB0 HR H1 H2 H3 C hg
  go_wp2_with fail
  refine bodyPost_ret (v := .agg #[.int .i64 k, .string name, .slice (some ⟨g, 0, none⟩) n n, .string text]) (by simp [results, Try.results53, go_sem, x0, x1, x2, x3, y0, y1, y2, y3, z0, z1, z2, z3]) rfl ⟨g, cu, by omega, rfl, ?_, HR1.out, ?_⟩
  · iterate 6 refine (Below.heap_setCell _ _ _ _ (by simp; omega)).trans ?_
    exact HG1.out
  · iterate 6 refine Below.setCell ?_ (by simp; try omega) _
    exact HB1.out

theorem cToNode (t : Tk) (a : Option Addr) (cap : Nat) (w : World) (hR : AtRow w a t.attrs) (hn : t.attrs.length ≤ 1048576) :
    Calls Try.prog 53 #[tkV t a cap] w fun e w' => ∃ g, w.heap.size ≤ g ∧ e = .returned (tkV t (some ⟨g, 0, none⟩) t.attrs.length) ∧ AtRow w' (some ⟨g, 0, none⟩) t.attrs ∧ Below w.heap.size w w' :=
  (cToNode2 t a cap w hR hn).mono fun _ _ ⟨g, cu, h1, h2, h3, h4, h5⟩ => ⟨g, h1, h2, h4.atRow h3, h5⟩

set_option maxHeartbeats 1000000 in
theorem cEqNode (t : Tk) (a c : Option Addr) (cap cap2 : Nat) (w : World) (hR : AtRow w a t.attrs) (hT : AtRow w c t.attrs) (hz : TkSz 1048576 t) :
    Calls Try.prog 54 #[tkV t a cap, tkV t c cap2] w fun e w' => e = .returned (.bool true) ∧ Below w.heap.size w w' := by
  obtain ⟨k, name, l, text⟩ := t
  obtain ⟨h1, h2, h3, h4⟩ := hz
  simp only at hR hT h1 h2 h3 h4
  simp only [tkV]
  have HB0 := hid (((Below.refl w.heap.size w).alloc (Nat.le_refl _) (.cells #[.int .i64 k, .string name, .slice a l.length cap, .string text] 56)).alloc (by simp) (.cells #[.int .i64 k, .string name, .slice c l.length cap2, .string text] 56))
  have HR := hid (hR.below HB0.out)
  have HT := hid (hT.below HB0.out)
  have C := fun (w : World) (hR : AtRow w a l) (hT : AtRow w c l) => cEqAttrS a c cap cap2 l w hR hT h3 h2
  clear hR hT h3 h2
  obtain ⟨n, hn⟩ : ∃ n, l.length = n := ⟨_, rfl⟩
  rw [hn] at C HR HT HB0 ⊢
  clear hn
  go_enter Try.func54, Try.ntmps54
  go_wp2_with fail
  refine (C _ HR.out HT.out).mono ?_
  rintro e w1 ⟨rfl, hb1⟩
  obtain ⟨hc, hf⟩ := bcell hb1
  have HB1 := hid (bb HB0.out hb1)
  have hz0 : w.heap.size + 1 < w1.heap.size := by have := hb1.size; simp at this; omega
  go_wp2_with fail
  go_ret
  exact ⟨rfl, HB1.out⟩

set_option maxRecDepth 8000 in
set_option maxHeartbeats 2000000 in
theorem cEqNodeS (a c : Option Addr) (cap cap2 : Nat) (ts : List Tk) (w : World) (hR : TkRow w a ts) (hT : TkRow w c ts) (hz : TksSz 1048576 ts) (hn : ts.length ≤ 1048576) :
    Calls Try.prog 26 #[.slice a ts.length cap, .slice c ts.length cap2] w fun e w' => e = .returned (.bool true) ∧ Below w.heap.size w w' := by
  have HR := hid hR
  have HT := hid hT
  have HZ := hid hz
  clear hR hT hz
  obtain ⟨n, hnn⟩ : ∃ n, ts.length = n := ⟨_, rfl⟩
  have HN := hid hnn
  rw [hnn] at hn ⊢
  clear hnn
  go_enter Try.func26, Try.ntmps26
  go_wp2
  go_loopw [5] (fun k wr => ∃ i : Nat, k = .int .i64 (i : Int) ∧ i ≤ n ∧ Hid (Below w.heap.size w wr)) (fun k _ => n - (intOf k).toNat)
  case atStart => exact ⟨0, rfl, Nat.zero_le _, Below.refl _ _⟩
  case round =>
    obtain ⟨i, rfl, hi, HB⟩ := hrel
    by_cases hlt : i < n
    · have his : i < ts.length := by rw [HN.out]; exact hlt
      have hin : (i : Int) < (n : Int) := by omega
      obtain ⟨b, o, aa, ca, rfl, hb, c0, c1, c2, c3, cr⟩ := HR.out.below HB.out i his
      obtain ⟨b2, o2, aa2, ca2, rfl, hb', k0, k1, k2, k3, kr⟩ := HT.out.below HB.out i his
      have C := fun (w : World) (h : AtRow w aa ts[i].attrs) (h2 : AtRow w aa2 ts[i].attrs) => cEqNode ts[i] aa aa2 ca ca2 w h h2 (HZ.out _ (List.getElem_mem his))
      have CR := hid cr
      have KR := hid kr
      have CC := fun p : BW wr => C p.w (CR.out.below p.h) (KR.out.below p.h)
      obtain ⟨d0, d1, d2, d3⟩ := quad_bw hb c0 c1 c2 c3
      obtain ⟨j0, j1, j2, j3⟩ := quad_bw hb' k0 k1 k2 k3
      have HNB := hid (bw_any wr)
      clear c0 c1 c2 c3 k0 k1 k2 k3 cr kr C
      go_wp2_with fail
      haveI := HNB.out
      refine wp_region_below (by kernel_rfl) (by kernel_rfl) (Below.refl wr.heap.size wr) ?_
      repeat (go_big_quiet_step ((go_at_call 54; exact calls_bw _ (CC _))))
      refine wpQuiet_nil ?_
      intro w2 hw'
      obtain ⟨⟨wx, hb2⟩, hw''⟩ := hw'
      subst hw''
      have HB2 := hid (bb HB.out hb2)
      clear this HNB CC d0 d1 d2 d3 j0 j1 j2 j3 hb2
      go_wp2_with fail
      go_roundw
      case rel => exact ⟨i + 1, by go_num, by omega, HB2.out⟩
      case measure => simp [intOf]; omega
    · have hie : i = n := by omega
      subst hie
      go_wp2_with fail
      go_ret
      exact ⟨rfl, HB.out⟩

theorem infoTk : (Try.prog.info? 56).map (fun i => (i.zero, i.size, i.bytes)) = some (some (.agg #[.int .i64 0, .string ⟨#[]⟩, .slice none 0 0, .string ⟨#[]⟩]), 4, 64) := by kernel_rfl

theorem makeTk (w : World) (n : Nat) (hn : n ≤ 1048576) : ∃ v w', (Instr.makeSlice 24 (.int .i64 (n : Int)) (.int .i64 (n : Int))).run Try.prog w = .ok v w' ∧ v = .slice (some ⟨w.heap.size, 0, none⟩) n n ∧ (∃ cur : Array Value, w'.heap[w.heap.size]? = some (.cells cur 56 (0, 0)) ∧ cur.size = n * 4) ∧ w.grownBy w' none := by
  obtain ⟨i0, hi, hz0, hz1, hz2⟩ := info_parts infoTk
  obtain ⟨w', hrun, r1, r2⟩ := run_make_full (P := Try.prog) w w.heap.size 24 56 i0 _ 4 Try.underlying24 hi hz0 hz1 .i64 .i64 n (by rw [hz2]; omega) (by unfold maxLen; omega) (Nat.le_refl _)
  refine ⟨_, w', hrun, rfl, ?_, r2⟩
  rcases r1.2 with ⟨h, _⟩ | ⟨g, cap', cur, h, hgb, hh, _, _, hsz, _⟩
  · cases h
  · cases h
    exact ⟨cur, hh, by omega⟩

/-- The first i of these lie in the cells, each list in a block of its own behind g, later ones later. -/
structure Laid (ts : List Tk) (g i : Nat) (G : Nat → Nat) (cur : Array Value) (wr : World) : Prop where
  cells : ∀ j (h : j < ts.length), j < i → cur[j * 4]? = some (.int .i64 ts[j].kind) ∧ cur[j * 4 + 1]? = some (.string ts[j].name) ∧ cur[j * 4 + 2]? = some (.slice (some ⟨G j, 0, none⟩) ts[j].attrs.length ts[j].attrs.length) ∧ cur[j * 4 + 3]? = some (.string ts[j].text)
  row : ∀ j (h : j < ts.length), j < i → g < G j ∧ ∃ cu, wr.heap[G j]? = some (.cells cu 66 (0, 0)) ∧ AtCells cu 0 ts[j].attrs
  later : ∀ j k, j < k → k < i → G j < G k

theorem Laid.start (ts : List Tk) (g : Nat) (cur : Array Value) (wr : World) : Laid ts g 0 (fun _ => 0) cur wr := ⟨fun j _ h => by omega, fun j _ h => by omega, fun j k _ h => by omega⟩

theorem Laid.below {ts : List Tk} {g i : Nat} {G : Nat → Nat} {cur : Array Value} {wr w' : World} (h : Laid ts g i G cur wr) (hb : Below wr.heap.size wr w') : Laid ts g i G cur w' :=
  ⟨h.cells, fun j hj hi => ⟨(h.row j hj hi).1, by
    obtain ⟨_, cu, hh, hc⟩ := h.row j hj hi
    exact ⟨cu, (hb.block _ (lt_of_heap hh)).trans hh, hc⟩⟩, h.later⟩

theorem Laid.set {ts : List Tk} {g i : Nat} {G : Nat → Nat} {cur : Array Value} {wr : World} (h : Laid ts g i G cur wr) (o : Nat) (v : Value) : Laid ts g i G cur (wr.setCell ⟨g, o, none⟩ v) :=
  ⟨h.cells, fun j hj hi => ⟨(h.row j hj hi).1, by
    obtain ⟨hg, cu, hh, hc⟩ := h.row j hj hi
    exact ⟨cu, (Below.heap_setCell wr _ v _ (by simp; omega)).trans hh, hc⟩⟩, h.later⟩

abbrev put4 (cur : Array Value) (i : Nat) (x y z u : Value) : Array Value := (((cur.setIfInBounds (i * 4) x).setIfInBounds (i * 4 + 1) y).setIfInBounds (i * 4 + 2) z).setIfInBounds (i * 4 + 3) u

theorem put4_same {cur : Array Value} {i n : Nat} {x y z u : Value} (hs : cur.size = n * 4) (hi : i < n) : (put4 cur i x y z u)[i * 4]? = some x ∧ (put4 cur i x y z u)[i * 4 + 1]? = some y ∧ (put4 cur i x y z u)[i * 4 + 2]? = some z ∧ (put4 cur i x y z u)[i * 4 + 3]? = some u := by
  refine ⟨?_, ?_, ?_, ?_⟩ <;> simp [put4, Array.getElem?_setIfInBounds, hs] <;> omega

theorem put4_other {cur : Array Value} {i j : Nat} {x y z u : Value} (h : ¬ i = j) (r : Nat) (hr : r < 4) : (put4 cur i x y z u)[j * 4 + r]? = cur[j * 4 + r]? := by
  simp only [put4, Array.getElem?_setIfInBounds]
  rw [if_neg (by omega), if_neg (by omega), if_neg (by omega), if_neg (by omega)]

theorem Laid.next {ts : List Tk} {g i n : Nat} {G : Nat → Nat} {cur : Array Value} {wr : World} (h : Laid ts g i G cur wr) (hi : i < ts.length) (hn : i < n) (hs : cur.size = n * 4) {gi : Nat} {cu : Array Value} (h1 : g < gi) (hl : ∀ j, j < i → G j < gi) (h2 : wr.heap[gi]? = some (.cells cu 66 (0, 0))) (hr : AtCells cu 0 ts[i].attrs) :
    Laid ts g (i + 1) (fun j => if j = i then gi else G j) (put4 cur i (.int .i64 ts[i].kind) (.string ts[i].name) (.slice (some ⟨gi, 0, none⟩) ts[i].attrs.length ts[i].attrs.length) (.string ts[i].text)) wr := by
  refine ⟨fun j hj hlt => ?_, fun j hj hlt => ?_, fun j k hjk hk => ?_⟩
  · by_cases e : j = i
    · subst e
      rw [if_pos rfl]
      exact put4_same hs hn
    · rw [if_neg e]
      have := h.cells j hj (by omega)
      have ne : ¬ i = j := fun x => e x.symm
      exact ⟨(put4_other ne 0 (by omega)).trans this.1, (put4_other ne 1 (by omega)).trans this.2.1, (put4_other ne 2 (by omega)).trans this.2.2.1, (put4_other ne 3 (by omega)).trans this.2.2.2⟩
  · by_cases e : j = i
    · subst e
      simp only [if_true]
      exact ⟨h1, cu, h2, hr⟩
    · simp only [if_neg e]
      exact h.row j hj (by omega)
  · by_cases e : k = i
    · subst e
      simp only [if_true, if_neg (show ¬ j = k by omega)]
      exact hl j hjk
    · simp only [if_neg e, if_neg (show ¬ j = i by omega)]
      exact h.later j k hjk (by omega)

theorem Laid.tkRow {ts : List Tk} {g : Nat} {G : Nat → Nat} {cur : Array Value} {wr : World} (h : Laid ts g ts.length G cur wr) (hh : wr.heap[g]? = some (.cells cur 56 (0, 0))) : TkRow wr (some ⟨g, 0, none⟩) ts := by
  intro j hj
  obtain ⟨c0, c1, c2, c3⟩ := h.cells j hj hj
  refine ⟨g, 0, some ⟨G j, 0, none⟩, ts[j].attrs.length, rfl, lt_of_heap hh, ?_, ?_, ?_, ?_, by obtain ⟨_, cu, h1, h2⟩ := h.row j hj hj; exact h2.atRow h1⟩
  · rw [Lib.cell_of_heap hh, Nat.zero_add]; exact c0
  · rw [Lib.cell_of_heap hh, Nat.zero_add]; exact c1
  · rw [Lib.cell_of_heap hh, Nat.zero_add]; exact c2
  · rw [Lib.cell_of_heap hh, Nat.zero_add]; exact c3

set_option maxRecDepth 8000 in
set_option maxHeartbeats 4000000 in
theorem cToNodeSL (a : Option Addr) (cap : Nat) (ts : List Tk) (w : World) (hR : TkRow w a ts) (hz : TksSz 1048576 ts) (hn : ts.length ≤ 1048576) :
    Calls Try.prog 25 #[.slice a ts.length cap] w fun e w' => ∃ G cur, e = .returned (.slice (some ⟨w.heap.size, 0, none⟩) ts.length ts.length) ∧ w'.heap[w.heap.size]? = some (.cells cur 56 (0, 0)) ∧ cur.size = ts.length * 4 ∧ Laid ts w.heap.size ts.length G cur w' ∧ Below w.heap.size w w' := by
  have HR := hid hR
  have HZ := hid hz
  clear hR hz
  obtain ⟨n, hnn⟩ : ∃ n, ts.length = n := ⟨_, rfl⟩
  have HN := hid hnn
  rw [hnn] at hn ⊢
  clear hnn
  go_enter Try.func25, Try.ntmps25
  go_wp2_with fail
  refine upon_ex (makeTk w n hn) ?_
  rintro _ w1 ⟨rfl, ⟨cur, hcur, hcs⟩, hg⟩
  have HB := hid ((Below.refl w.heap.size w).grown hg (Nat.le_refl _) (by simp))
  have HC := hid hcur
  clear hcur hg
  go_wp2_with fail
  go_loopw [4] (fun k wr => ∃ (i : Nat) (G : Nat → Nat) (cur : Array Value), k = .int .i64 (i : Int) ∧ i ≤ n ∧ Hid (wr.heap[w.heap.size]? = some (.cells cur 56 (0, 0))) ∧ cur.size = n * 4 ∧ Hid (Laid ts w.heap.size i G cur wr) ∧ Hid (Below w.heap.size w wr)) (fun k _ => n - (intOf k).toNat)
  case atStart => exact ⟨0, fun _ => 0, cur, rfl, Nat.zero_le _, HC.out, hcs, Laid.start _ _ _ _, HB.out⟩
  case round =>
    clear HC HB hcs cur
    obtain ⟨i, G, cur, rfl, hi, HH, hcs, HA, HB⟩ := hrel
    have hsz : w.heap.size < wr.heap.size := lt_of_heap HH.out
    by_cases hlt : i < n
    · have his : i < ts.length := by rw [HN.out]; exact hlt
      obtain ⟨b, o, aa, ca, rfl, hb, c0, c1, c2, c3, cr⟩ := HR.out.below HB.out i his
      have hin : (i : Int) < (n : Int) := by omega
      have C := hid (cToNode2 ts[i] aa ca wr cr (HZ.out _ (List.getElem_mem his)).2.1)
      have HL : Hid (∀ (gi : Nat) (w2 : World) (cu : Array Value), Laid ts w.heap.size i G cur w2 → w.heap.size < gi → (∀ j, j < i → G j < gi) → w2.heap[gi]? = some (.cells cu 66 (0, 0)) → AtCells cu 0 ts[i].attrs → Laid ts w.heap.size (i + 1) (fun j => if j = i then gi else G j) (put4 cur i (.int .i64 ts[i].kind) (.string ts[i].name) (.slice (some ⟨gi, 0, none⟩) ts[i].attrs.length ts[i].attrs.length) (.string ts[i].text)) w2) :=
        fun gi w2 cu h h1 h2 h3 h4 => h.next his hlt hcs h1 h2 h3 h4
      clear cr
      simp only [tkV] at C
      generalize ts[i] = t at *
      go_wp2_with fail
      refine C.out.mono ?_
      rintro e w2 ⟨gi, cu, hgi, rfl, hh2, hr2, hb2⟩
      have HB2 := hid (HB.out.trans (hb2.mono HB.out.size))
      have HH2 := hid ((hb2.block _ (lt_of_heap HH.out)).trans HH.out)
      have HA2 := hid (HA.out.below hb2)
      have HR2 := hid (And.intro hh2 hr2)
      have hx : ∀ r, r < 4 → ∃ v, w2.cell? ⟨w.heap.size, i * 4 + r, none⟩ = some v := by
        intro r hr
        rw [Lib.cell_of_heap HH2.out]
        exact ⟨cur[i * 4 + r]'(by omega), Array.getElem?_eq_getElem (by omega)⟩
      obtain ⟨o0, k0⟩ := hx 0 (by omega)
      obtain ⟨o1, k1⟩ := hx 1 (by omega)
      obtain ⟨o2, k2⟩ := hx 2 (by omega)
      obtain ⟨o3, k3⟩ := hx 3 (by omega)
      rw [Nat.add_zero] at k0
      have f0 : w2.frozen? ⟨w.heap.size, i * 4, none⟩ = false := Lib.frozen_of_heap HH2.out _
      have f1 : w2.frozen? ⟨w.heap.size, i * 4 + 1, none⟩ = false := Lib.frozen_of_heap HH2.out _
      have f2 : w2.frozen? ⟨w.heap.size, i * 4 + 2, none⟩ = false := Lib.frozen_of_heap HH2.out _
      have f3 : w2.frozen? ⟨w.heap.size, i * 4 + 3, none⟩ = false := Lib.frozen_of_heap HH2.out _
      have HL2 := hid (HL.out gi w2 cu HA2.out (by omega) (fun j hji => by obtain ⟨_, _, hh, _⟩ := HA.out.row j (by omega) hji; have := lt_of_heap hh; omega) HR2.out.1 HR2.out.2)
      have HL3 := hid ((((HL2.out.set (i * 4) (.int .i64 t.kind)).set (i * 4 + 1) (.string t.name)).set (i * 4 + 2) (.slice (some ⟨gi, 0, none⟩) t.attrs.length t.attrs.length)).set (i * 4 + 3) (.string t.text))
      have HS2 := hid (show ((((w2.setCell ⟨w.heap.size, i * 4, none⟩ (.int .i64 t.kind)).setCell ⟨w.heap.size, i * 4 + 1, none⟩ (.string t.name)).setCell ⟨w.heap.size, i * 4 + 2, none⟩ (.slice (some ⟨gi, 0, none⟩) t.attrs.length t.attrs.length)).setCell ⟨w.heap.size, i * 4 + 3, none⟩ (.string t.text)).heap[w.heap.size]? = some (.cells (put4 cur i (.int .i64 t.kind) (.string t.name) (.slice (some ⟨gi, 0, none⟩) t.attrs.length t.attrs.length) (.string t.text)) 56 (0, 0)) by
        simp [World.setCell, Array.getElem?_modify, HH2.out, put4])
      have HB3 := hid ((((HB2.out.setCell (p := ⟨w.heap.size, i * 4, none⟩) (Nat.le_refl _) (.int .i64 t.kind)).setCell (p := ⟨w.heap.size, i * 4 + 1, none⟩) (Nat.le_refl _) (.string t.name)).setCell (p := ⟨w.heap.size, i * 4 + 2, none⟩) (Nat.le_refl _) (.slice (some ⟨gi, 0, none⟩) t.attrs.length t.attrs.length)).setCell (p := ⟨w.heap.size, i * 4 + 3, none⟩) (Nat.le_refl _) (.string t.text))
      have HC2 := hid (show (put4 cur i (.int .i64 t.kind) (.string t.name) (.slice (some ⟨gi, 0, none⟩) t.attrs.length t.attrs.length) (.string t.text)).size = n * 4 by simp [put4, hcs])
      clear hb2 C c0 c1 c2 c3 hr2 hh2 HL HL2
      go_wp2_with fail
      go_roundw
      case rel => exact ⟨i + 1, _, _, by go_num, by omega, HS2.out, HC2.out, HL3.out, HB3.out⟩
      case measure => simp [intOf]; omega
    · have hie : i = n := by omega
      subst hie
      go_wp2_with fail
      go_ret
      exact ⟨G, cur, rfl, HH.out, hcs, HA.out, HB.out⟩

end Go.Proofs.Ytbiblabmhlgnoaa.Nd
