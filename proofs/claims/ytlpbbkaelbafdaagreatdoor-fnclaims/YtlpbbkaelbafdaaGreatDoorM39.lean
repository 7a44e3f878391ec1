/-  -/
import Derived.Test.YtlpbbkaelbafdaaGreatDoorM1
import Derived.Test.YtlpbbkaelbafdaaGreatDoorM36
import Derived.Deep.RegionHeld
set_option linter.unusedVariables false
set_option linter.unusedSimpArgs false
namespace Go.Proofs.YtlpbbkaelbafdaaGreatDoor
open Go.RowKit

def unL (listed : Array Bool) : List Nat := (List.range listed.size).filter fun j => !listed.getD j true

theorem unL_set {listed : Array Bool} {i : Nat} (h : listed.getD i true = false) : (unL (listed.setIfInBounds i true)).length < (unL listed).length := by
 have hi : i < listed.size := by
  rcases Nat.lt_or_ge i listed.size with h' | h'
  ·exact h'
  ·simp [Array.getD, Nat.not_lt.2 h'] at h
 have hm : i ∈ unL listed := List.mem_filter.2 ⟨List.mem_range.2 hi, by rw [h]; rfl⟩
 have e : unL (listed.setIfInBounds i true) = (unL listed).filter (fun j => !decide (j = i)) := by
  unfold unL
  rw [Array.size_setIfInBounds, List.filter_filter]
  refine List.filter_congr (fun j hj => ?_)
  rw [List.mem_range] at hj
  by_cases hji : j = i
  ·subst hji
   simp [Array.getD, hj]
  ·simp [Array.getD, hj, hji, Array.getElem_setIfInBounds, Ne.symm hji]
 rw [e]
 exact List.length_filter_lt_length_iff_exists.2 ⟨i, hm, by simp⟩

theorem any_inv {P : Program} {md : Region.Mode} {ops : Array Oper} {Q : Exit -> Act -> World -> Prop} (Inv : Array Bool -> Act -> World -> Prop)
  (step : ∀ listed a w i, Inv listed a w -> i ∈ Region.ready md ops listed -> wpOp P ops Q i (fun a' w' => Inv (listed.setIfInBounds i true) a' w') a w)
  (done : ∀ listed a w, Inv listed a w -> Region.ready md ops listed = [] -> Q .normal a w) :
  ∀ fuel listed a w, (unL listed).length <= fuel -> Inv listed a w -> wpAnyH P md ops Q (fun _ => True) fuel listed a w := by
 intro fuel
 induction fuel with
 | zero =>
  intro listed a w hl hI
  have hr : Region.ready md ops listed = [] := by
   rcases List.eq_nil_or_concat (Region.ready md ops listed) with h | ⟨l, i, h⟩
   ·exact h
   ·have hi : i ∈ Region.ready md ops listed := by rw [h]; simp
    have := unL_set (mem_ready.1 hi).1
    omega
  exact ⟨hr, done listed a w hI hr⟩
 | succ fuel ih =>
  intro listed a w hl hI
  refine ⟨fun hr => done listed a w hI hr, fun i hi => ?_⟩
  refine wpOp_mono (fun a' w' h => ⟨trivial, ih _ a' w' ?_ h⟩) (step listed a w i hI hi)
  have := unL_set (mem_ready.1 hi).1
  omega

theorem region_inv {P : Program} {ops : Array Oper} {id : Nat} {Q : Exit -> Act -> World -> Prop} {a : Act} {w : World} (hm : P.follows .mixedOrders = true) (Inv : Array Bool -> Act -> World -> Prop)
  (step : ∀ listed a w i, Inv listed a w -> i ∈ Region.ready .any ops listed -> wpOp P ops Q i (fun a' w' => Inv (listed.setIfInBounds i true) a' w') a w)
  (done : ∀ listed a w, Inv listed a w -> Region.ready .any ops listed = [] -> Q .normal a w) (h0 : Inv (Array.replicate ops.size false) a w.drew) : (Code.region id ops true).wp P Q a w := by
 refine wp_region_held_drew (S := fun _ => True) hm trivial (fun _ => any_inv Inv step done _ _ _ _ ?_ h0)
 refine Nat.le_trans (List.length_filter_le _ _) ?_
 rw [List.length_range, Array.size_replicate]
 exact Nat.le_refl _

end Go.Proofs.YtlpbbkaelbafdaaGreatDoor

namespace Go.Proofs.YtlpbbkaelbafdaaGreatDoor
open Go.RowKit

def issO : Obj := .cells #[.string ⟨#[105, 100, 112]⟩, .string ⟨#[105, 100, 112]⟩, .string ⟨#[105, 100, 112]⟩, .string ⟨#[111, 116, 104, 101, 114]⟩] 9 (0, 0)
def subO : Obj := .cells #[.string ⟨#[97, 110, 110]⟩, .string ⟨#[98, 111, 98, 64, 120, 46, 121]⟩, .string ⟨#[99, 121]⟩] 9 (0, 0)
def forO : Obj := .cells #[.string ⟨#[103, 97, 116, 101]⟩, .string ⟨#[103, 97, 116, 101]⟩, .string ⟨#[103, 97, 116, 101]⟩, .string ⟨#[100, 111, 111, 114]⟩] 9 (0, 0)
def zerO : Obj := .cells #[.string ⟨#[]⟩, .string ⟨#[]⟩, .string ⟨#[]⟩, .int .i64 0, .int .i64 0, .string ⟨#[]⟩, .string ⟨#[]⟩, .slice none 0 0] 26 (0, 0)

def BlO (b : Nat) (O : Obj) (n : Nat) (v : Value) (W : World) : Prop := ∃ g, v = .slice (some ⟨g, 0, none⟩) n n /\ (¬ g = b) /\ W.heap[g]? = some O
def AtO (b : Nat) (O : Obj) (n : Nat) (v : Value) (W : World) : Prop := ∃ g x, v = .pointer (some ⟨g, x, none⟩) /\ x < n /\ (¬ g = b) /\ W.heap[g]? = some O
def TxO (v : Value) : Prop := ∃ t : ByteArray, v = .string t /\ (¬ t.size = 0) /\ t.size <= 30
def NuO (n : Nat) (v : Value) : Prop := ∃ x : Nat, v = .int .i64 (x : Int) /\ x < n

def CnO (b B2 : Nat) (j : Nat) (v : Value) (W : World) : Prop :=
 match j with
 | 0 | 4 | 9 | 13 | 17 => v = .pointer (some ⟨b, 0, none⟩)
 | 1 => ∃ t : ByteArray, v = .string t /\ t.size < 4
 | 2 => TxO v
 | 3 => BlO b issO 4 v W
 | 5 | 18 => NuO 4 v
 | 6 => AtO b issO 4 v W
 | 7 | 12 | 20 => TxO v
 | 8 => BlO b subO 3 v W
 | 10 => NuO 3 v
 | 11 => AtO b subO 3 v W
 | 14 => NuO 300 v
 | 15 => ∃ z : Int, v = .int .i64 z
 | 16 => BlO b forO 4 v W
 | 19 => AtO b forO 4 v W
 | 21 => ∃ c : Cm, v = clV c (.slice none 0 0) /\ CmSz 100 c /\ c.facts = [] /\ (¬ c.iss.size = 0) /\ (¬ c.sub.size = 0) /\ ¬ c.whom.size = 0
 | 22 => ∃ g, v = .pointer (some ⟨g, 0, none⟩) /\ (¬ g = b) /\ B2 < g /\ W.heap[g]? = some zerO
 | _ => True

def slO (j : Nat) : Nat := if j <= 21 then 8 + j else 3

theorem BlO.grown {b n : Nat} {O : Obj} {v : Value} {W W' : World} (h : BlO b O n v W) (hg : W.grownBy W' (some b)) : BlO b O n v W' := by
 obtain ⟨g, e, hne, hh⟩ := h
 exact ⟨g, e, hne, (hg.block g (lt_of_heap hh) (fun x => hne (Option.some.inj x))).trans hh⟩

theorem AtO.grown {b n : Nat} {O : Obj} {v : Value} {W W' : World} (h : AtO b O n v W) (hg : W.grownBy W' (some b)) : AtO b O n v W' := by
 obtain ⟨g, x, e, hx, hne, hh⟩ := h
 exact ⟨g, x, e, hx, hne, (hg.block g (lt_of_heap hh) (fun x => hne (Option.some.inj x))).trans hh⟩

theorem CnO.grown {b B2 j : Nat} {v : Value} {W W' : World} (h : CnO b B2 j v W) (hg : W.grownBy W' (some b)) : CnO b B2 j v W' := by
 unfold CnO at h ⊢
 split at h
 all_goals first
  | exact h
  | exact BlO.grown h hg
  | exact AtO.grown h hg
  | (obtain ⟨g, e, hne, hb, hh⟩ := h; exact ⟨g, e, hne, hb, (hg.block g (lt_of_heap hh) (fun x => hne (Option.some.inj x))).trans hh⟩)

def frO (b B2 : Nat) (σ : Nat -> Value) : Act := { tmps := #[.pointer (some ⟨b, 0, none⟩), undef, .pointer (some ⟨B2, 0, none⟩), σ 3, undef, undef, undef, undef, σ 8, σ 9, σ 10, σ 11, σ 12, σ 13, σ 14, σ 15, σ 16, σ 17, σ 18, σ 19, σ 20, σ 21, σ 22, σ 23, σ 24, σ 25, σ 26, σ 27, σ 28, σ 29, undef, undef, undef, undef, undef, undef, undef, undef, undef, undef, undef, undef, undef, undef, undef, undef, undef, undef, undef, undef, undef, undef, undef, undef, undef, undef, undef, undef, undef, undef, undef, undef, undef, undef, undef, undef, undef, undef, undef, undef, undef, undef, undef, undef, undef], defers := [] }

def upO (σ : Nat -> Value) (k : Nat) (v : Value) : Nat -> Value := fun j => if j = k then v else σ j

def AllO (b B2 : Nat) (listed : Array Bool) (σ : Nat -> Value) (W : World) : Prop := ∀ j, j < 23 -> listed.getD j false = true -> CnO b B2 j (σ (slO j)) W

theorem slO_inj {i j : Nat} (hi : i < 23) (hj : j < 23) (h : slO i = slO j) : i = j := by
 unfold slO at h
 split at h <;> split at h <;> omega

theorem AllO.next {b B2 i : Nat} {listed : Array Bool} {σ : Nat -> Value} {v : Value} {W W' : World} (h : AllO b B2 listed σ W) (hi : i < 23) (hg : W.grownBy W' (some b)) (hv : CnO b B2 i v W') : AllO b B2 (listed.setIfInBounds i true) (upO σ (slO i) v) W' := by
 intro j hj hl
 by_cases hji : j = i
 ·subst hji
  show CnO b B2 j (if slO j = slO j then v else _) W'
  rw [if_pos rfl]
  exact hv
 ·have e : (listed.setIfInBounds i true).getD j false = listed.getD j false := by
   exact getD_set_ne false (fun x => hji x.symm)
  rw [e] at hl
  show CnO b B2 j (if slO j = slO i then v else σ (slO j)) W'
  rw [if_neg (fun x => hji (slO_inj hj hi x))]
  exact (h j hj hl).grown hg

def opsI14 (i : Nat) : Code -> Option (Array Oper)
 | .region id ops _ => if id = i then some ops else none
 | .seq x y => match opsI14 i x with
  | some c => some c
  | none => opsI14 i y
 | .cond _ x y => match opsI14 i x with
  | some c => some c
  | none => opsI14 i y
 | .block _ x => opsI14 i x
 | _ => none

theorem at_ops14 {o : Option (Array Oper)} {c' : Array Oper} {P : Array Oper -> Prop} (h : o = some c') (H : P c') : ∀ c, o = some c -> P c := fun c hc => by
 rw [h] at hc
 cases hc
 exact H

def FinO (w0 : World) (a : Option Addr) (len cap b : Nat) (w : World) (B2 : Nat) (σ : Nat -> Value) (W : World) : Prop :=
 ∃ g c, σ 3 = .pointer (some ⟨g, 0, none⟩) /\ (¬ g = b) /\ B2 < g /\ ClH W g c (.slice none 0 0) /\ CmSz 100 c /\ c.facts = [] /\ (¬ c.iss.size = 0) /\ (¬ c.sub.size = 0) /\ (¬ c.whom.size = 0) /\ Cur w0 a len cap b W /\ w.grownBy W (some b)

def InvO (w0 : World) (a : Option Addr) (len cap b : Nat) (w : World) (B2 : Nat) (listed : Array Bool) (A : Act) (W : World) : Prop :=
 listed.size = 24 /\ ∃ σ, A = frO b B2 σ /\ ((listed.getD 23 false = false /\ Cur w0 a len cap b W /\ w.grownBy W (some b) /\ AllO b B2 listed σ W) \/ ((∀ j, j < 24 -> listed.getD j true = true) /\ FinO w0 a len cap b w B2 σ W))

theorem dep14 {ops : Array Oper} {listed : Array Bool} {i k : Nat} {g : Ground} {o : Oper} (hi : i ∈ Region.ready .any ops listed) (ho : ops[i]? = some o) (he : ({ on := k, ground := g } : Edge) ∈ o.after) (hb : Region.binds .any { on := k, ground := g } = true) : listed.getD k false = true := by
 obtain ⟨_, o', ho', h⟩ := mem_ready.1 hi
 rw [ho] at ho'
 cases ho'
 exact h _ he hb

theorem row4_at {w : World} {B : Nat} {x y z u : ByteArray} (h : w.heap[B]? = some (.cells #[.string x, .string y, .string z, .string u] 9 (0, 0))) (hx : (¬ x.size = 0) /\ x.size <= 30) (hy : (¬ y.size = 0) /\ y.size <= 30) (hz : (¬ z.size = 0) /\ z.size <= 30) (hu : (¬ u.size = 0) /\ u.size <= 30) (i : Nat) (hi : i < 4) : ∃ s : ByteArray, w.cell? ⟨B, i, none⟩ = some (.string s) /\ (¬ s.size = 0) /\ s.size <= 30 := by
 have t := fun j => Lib.cell_of_heap h j
 match i, hi with
 | 0, _ => exact ⟨x, (t 0).trans rfl, hx⟩
 | 1, _ => exact ⟨y, (t 1).trans rfl, hy⟩
 | 2, _ => exact ⟨z, (t 2).trans rfl, hz⟩
 | 3, _ => exact ⟨u, (t 3).trans rfl, hu⟩

theorem row3_at {w : World} {B : Nat} {x y z : ByteArray} (h : w.heap[B]? = some (.cells #[.string x, .string y, .string z] 9 (0, 0))) (hx : (¬ x.size = 0) /\ x.size <= 30) (hy : (¬ y.size = 0) /\ y.size <= 30) (hz : (¬ z.size = 0) /\ z.size <= 30) (i : Nat) (hi : i < 3) : ∃ s : ByteArray, w.cell? ⟨B, i, none⟩ = some (.string s) /\ (¬ s.size = 0) /\ s.size <= 30 := by
 have t := fun j => Lib.cell_of_heap h j
 match i, hi with
 | 0, _ => exact ⟨x, (t 0).trans rfl, hx⟩
 | 1, _ => exact ⟨y, (t 1).trans rfl, hy⟩
 | 2, _ => exact ⟨z, (t 2).trans rfl, hz⟩

set_option maxRecDepth 8000 in
set_option maxHeartbeats 4000000 in
theorem st0 {w0 : World} {a : Option Addr} {len cap b B2 : Nat} {w W : World} {listed : Array Bool} {σ : Nat -> Value} {Q : Exit -> Act -> World -> Prop} (hlen : len <= 4096) (hcr : CodeRow w0 a len) (hB2 : B2 < w.heap.size) (hsz : listed.size = 24) (h23 : listed.getD 23 false = false) (hC : Cur w0 a len cap b W) (hg : w.grownBy W (some b)) (hall : AllO b B2 listed σ W) :
  ∀ ops, Tryz.f26.body.bind (opsI14 1) = some ops -> 0 ∈ Region.ready .any ops listed -> wpOp Tryz.prog ops Q 0 (fun a' w' => InvO w0 a len cap b w B2 (listed.setIfInBounds 0 true) a' w') (frO b B2 σ) W := by
 refine at_ops14 rfl (fun hi => ?_)
 refine wpOp_step rfl (fun K' hK => ?_)
 unfold frO
 go_simp
 refine hK _ _ ⟨by rw [Array.size_setIfInBounds]; exact hsz, upO σ 8 (.pointer (some ⟨b, 0, none⟩)), by simp [frO, upO], .inl ⟨by rw [getD_set_ne false (by decide)]; exact h23, hC, hg, AllO.next (i := 0) hall (by decide) (World.grownBy.refl _ _) (show CnO b B2 0 _ W from rfl)⟩⟩

set_option maxRecDepth 8000 in
set_option maxHeartbeats 4000000 in
theorem st4 {w0 : World} {a : Option Addr} {len cap b B2 : Nat} {w W : World} {listed : Array Bool} {σ : Nat -> Value} {Q : Exit -> Act -> World -> Prop} (hlen : len <= 4096) (hcr : CodeRow w0 a len) (hB2 : B2 < w.heap.size) (hsz : listed.size = 24) (h23 : listed.getD 23 false = false) (hC : Cur w0 a len cap b W) (hg : w.grownBy W (some b)) (hall : AllO b B2 listed σ W) :
  ∀ ops, Tryz.f26.body.bind (opsI14 1) = some ops -> 4 ∈ Region.ready .any ops listed -> wpOp Tryz.prog ops Q 4 (fun a' w' => InvO w0 a len cap b w B2 (listed.setIfInBounds 4 true) a' w') (frO b B2 σ) W := by
 refine at_ops14 rfl (fun hi => ?_)
 refine wpOp_step rfl (fun K' hK => ?_)
 unfold frO
 go_simp
 refine hK _ _ ⟨by rw [Array.size_setIfInBounds]; exact hsz, upO σ 12 (.pointer (some ⟨b, 0, none⟩)), by simp [frO, upO], .inl ⟨by rw [getD_set_ne false (by decide)]; exact h23, hC, hg, AllO.next (i := 4) hall (by decide) (World.grownBy.refl _ _) (show CnO b B2 4 _ W from rfl)⟩⟩

set_option maxRecDepth 8000 in
set_option maxHeartbeats 4000000 in
theorem st9 {w0 : World} {a : Option Addr} {len cap b B2 : Nat} {w W : World} {listed : Array Bool} {σ : Nat -> Value} {Q : Exit -> Act -> World -> Prop} (hlen : len <= 4096) (hcr : CodeRow w0 a len) (hB2 : B2 < w.heap.size) (hsz : listed.size = 24) (h23 : listed.getD 23 false = false) (hC : Cur w0 a len cap b W) (hg : w.grownBy W (some b)) (hall : AllO b B2 listed σ W) :
  ∀ ops, Tryz.f26.body.bind (opsI14 1) = some ops -> 9 ∈ Region.ready .any ops listed -> wpOp Tryz.prog ops Q 9 (fun a' w' => InvO w0 a len cap b w B2 (listed.setIfInBounds 9 true) a' w') (frO b B2 σ) W := by
 refine at_ops14 rfl (fun hi => ?_)
 refine wpOp_step rfl (fun K' hK => ?_)
 unfold frO
 go_simp
 refine hK _ _ ⟨by rw [Array.size_setIfInBounds]; exact hsz, upO σ 17 (.pointer (some ⟨b, 0, none⟩)), by simp [frO, upO], .inl ⟨by rw [getD_set_ne false (by decide)]; exact h23, hC, hg, AllO.next (i := 9) hall (by decide) (World.grownBy.refl _ _) (show CnO b B2 9 _ W from rfl)⟩⟩

set_option maxRecDepth 8000 in
set_option maxHeartbeats 4000000 in
theorem st13 {w0 : World} {a : Option Addr} {len cap b B2 : Nat} {w W : World} {listed : Array Bool} {σ : Nat -> Value} {Q : Exit -> Act -> World -> Prop} (hlen : len <= 4096) (hcr : CodeRow w0 a len) (hB2 : B2 < w.heap.size) (hsz : listed.size = 24) (h23 : listed.getD 23 false = false) (hC : Cur w0 a len cap b W) (hg : w.grownBy W (some b)) (hall : AllO b B2 listed σ W) :
  ∀ ops, Tryz.f26.body.bind (opsI14 1) = some ops -> 13 ∈ Region.ready .any ops listed -> wpOp Tryz.prog ops Q 13 (fun a' w' => InvO w0 a len cap b w B2 (listed.setIfInBounds 13 true) a' w') (frO b B2 σ) W := by
 refine at_ops14 rfl (fun hi => ?_)
 refine wpOp_step rfl (fun K' hK => ?_)
 unfold frO
 go_simp
 refine hK _ _ ⟨by rw [Array.size_setIfInBounds]; exact hsz, upO σ 21 (.pointer (some ⟨b, 0, none⟩)), by simp [frO, upO], .inl ⟨by rw [getD_set_ne false (by decide)]; exact h23, hC, hg, AllO.next (i := 13) hall (by decide) (World.grownBy.refl _ _) (show CnO b B2 13 _ W from rfl)⟩⟩

set_option maxRecDepth 8000 in
set_option maxHeartbeats 4000000 in
theorem st17 {w0 : World} {a : Option Addr} {len cap b B2 : Nat} {w W : World} {listed : Array Bool} {σ : Nat -> Value} {Q : Exit -> Act -> World -> Prop} (hlen : len <= 4096) (hcr : CodeRow w0 a len) (hB2 : B2 < w.heap.size) (hsz : listed.size = 24) (h23 : listed.getD 23 false = false) (hC : Cur w0 a len cap b W) (hg : w.grownBy W (some b)) (hall : AllO b B2 listed σ W) :
  ∀ ops, Tryz.f26.body.bind (opsI14 1) = some ops -> 17 ∈ Region.ready .any ops listed -> wpOp Tryz.prog ops Q 17 (fun a' w' => InvO w0 a len cap b w B2 (listed.setIfInBounds 17 true) a' w') (frO b B2 σ) W := by
 refine at_ops14 rfl (fun hi => ?_)
 refine wpOp_step rfl (fun K' hK => ?_)
 unfold frO
 go_simp
 refine hK _ _ ⟨by rw [Array.size_setIfInBounds]; exact hsz, upO σ 25 (.pointer (some ⟨b, 0, none⟩)), by simp [frO, upO], .inl ⟨by rw [getD_set_ne false (by decide)]; exact h23, hC, hg, AllO.next (i := 17) hall (by decide) (World.grownBy.refl _ _) (show CnO b B2 17 _ W from rfl)⟩⟩

set_option maxRecDepth 8000 in
set_option maxHeartbeats 4000000 in
theorem st1 {w0 : World} {a : Option Addr} {len cap b B2 : Nat} {w W : World} {listed : Array Bool} {σ : Nat -> Value} {Q : Exit -> Act -> World -> Prop} (hlen : len <= 4096) (hcr : CodeRow w0 a len) (hB2 : B2 < w.heap.size) (hsz : listed.size = 24) (h23 : listed.getD 23 false = false) (hC : Cur w0 a len cap b W) (hg : w.grownBy W (some b)) (hall : AllO b B2 listed σ W) :
  ∀ ops, Tryz.f26.body.bind (opsI14 1) = some ops -> 1 ∈ Region.ready .any ops listed -> wpOp Tryz.prog ops Q 1 (fun a' w' => InvO w0 a len cap b w B2 (listed.setIfInBounds 1 true) a' w') (frO b B2 σ) W := by
 refine at_ops14 rfl (fun hi => ?_)
 have e0 : σ 8 = .pointer (some ⟨b, 0, none⟩) := hall 0 (by decide) (dep14 (g := .data) hi rfl (by simp) (by rfl))
 refine wpOp_step rfl (fun K' hK => ?_)
 unfold frO
 rw [e0]
 go_simp
 refine (cText ⟨#[48, 49, 50, 51, 52, 53, 54, 55, 56, 57]⟩ 4 w0 a len cap b W (by decide) (by decide) (by decide) (by decide) hlen hcr hC).mono ?_
 rintro e W2 ⟨t, rfl, ht, hC2, hG2⟩
 refine hK _ _ ⟨by rw [Array.size_setIfInBounds]; exact hsz, upO σ 9 (.string t), by simp [frO, upO, e0], .inl ⟨by rw [getD_set_ne false (by decide)]; exact h23, hC2, gtrans hg hG2, AllO.next (i := 1) hall (by decide) (hG2) (show CnO b B2 1 _ W2 from ⟨t, rfl, ht⟩)⟩⟩

set_option maxRecDepth 8000 in
set_option maxHeartbeats 4000000 in
theorem st2 {w0 : World} {a : Option Addr} {len cap b B2 : Nat} {w W : World} {listed : Array Bool} {σ : Nat -> Value} {Q : Exit -> Act -> World -> Prop} (hlen : len <= 4096) (hcr : CodeRow w0 a len) (hB2 : B2 < w.heap.size) (hsz : listed.size = 24) (h23 : listed.getD 23 false = false) (hC : Cur w0 a len cap b W) (hg : w.grownBy W (some b)) (hall : AllO b B2 listed σ W) :
  ∀ ops, Tryz.f26.body.bind (opsI14 1) = some ops -> 2 ∈ Region.ready .any ops listed -> wpOp Tryz.prog ops Q 2 (fun a' w' => InvO w0 a len cap b w B2 (listed.setIfInBounds 2 true) a' w') (frO b B2 σ) W := by
 refine at_ops14 rfl (fun hi => ?_)
 have e1 : ∃ t : ByteArray, σ 9 = .string t /\ t.size < 4 := hall 1 (by decide) (dep14 (g := .data) hi rfl (by simp) (by rfl))
 obtain ⟨t, e1, ht⟩ := e1
 have hcat : ¬ 9223372036854775807 < 1 + t.size := by omega
 refine wpOp_step rfl (fun K' hK => ?_)
 unfold frO
 rw [e1]
 go_simp
 refine hK _ _ ⟨by rw [Array.size_setIfInBounds]; exact hsz, upO σ 10 (.string (⟨#[107]⟩ ++ t)), by simp [frO, upO, e1], .inl ⟨by rw [getD_set_ne false (by decide)]; exact h23, hC, hg, AllO.next (i := 2) hall (by decide) (World.grownBy.refl _ _) (show CnO b B2 2 _ W from ⟨_, rfl, by rw [ByteArray.size_append]; show ¬ 1 + t.size = 0; omega, by rw [ByteArray.size_append]; show 1 + t.size <= 30; omega⟩)⟩⟩

set_option maxRecDepth 8000 in
set_option maxHeartbeats 4000000 in
theorem st3 {w0 : World} {a : Option Addr} {len cap b B2 : Nat} {w W : World} {listed : Array Bool} {σ : Nat -> Value} {Q : Exit -> Act -> World -> Prop} (hlen : len <= 4096) (hcr : CodeRow w0 a len) (hB2 : B2 < w.heap.size) (hsz : listed.size = 24) (h23 : listed.getD 23 false = false) (hC : Cur w0 a len cap b W) (hg : w.grownBy W (some b)) (hall : AllO b B2 listed σ W) :
  ∀ ops, Tryz.f26.body.bind (opsI14 1) = some ops -> 3 ∈ Region.ready .any ops listed -> wpOp Tryz.prog ops Q 3 (fun a' w' => InvO w0 a len cap b w B2 (listed.setIfInBounds 3 true) a' w') (frO b B2 σ) W := by
 refine at_ops14 rfl (fun hi => ?_)
 refine wpOp_step rfl (fun K' hK => ?_)
 unfold frO
 go_simp
 refine hK _ _ ⟨by rw [Array.size_setIfInBounds]; exact hsz, upO σ 11 (.slice (some ⟨W.heap.size, 0, none⟩) 4 4), by simp [frO, upO], .inl ⟨by rw [getD_set_ne false (by decide)]; exact h23, hC.alloc _, gtrans hg (World.grownBy_alloc W _ _), AllO.next (i := 3) hall (by decide) (World.grownBy_alloc W issO _) (show CnO b B2 3 _ (W.alloc issO) from ⟨W.heap.size, rfl, by have := hC.lt; omega, heap_alloc_new W _⟩)⟩⟩

set_option maxRecDepth 8000 in
set_option maxHeartbeats 4000000 in
theorem st8 {w0 : World} {a : Option Addr} {len cap b B2 : Nat} {w W : World} {listed : Array Bool} {σ : Nat -> Value} {Q : Exit -> Act -> World -> Prop} (hlen : len <= 4096) (hcr : CodeRow w0 a len) (hB2 : B2 < w.heap.size) (hsz : listed.size = 24) (h23 : listed.getD 23 false = false) (hC : Cur w0 a len cap b W) (hg : w.grownBy W (some b)) (hall : AllO b B2 listed σ W) :
  ∀ ops, Tryz.f26.body.bind (opsI14 1) = some ops -> 8 ∈ Region.ready .any ops listed -> wpOp Tryz.prog ops Q 8 (fun a' w' => InvO w0 a len cap b w B2 (listed.setIfInBounds 8 true) a' w') (frO b B2 σ) W := by
 refine at_ops14 rfl (fun hi => ?_)
 refine wpOp_step rfl (fun K' hK => ?_)
 unfold frO
 go_simp
 refine hK _ _ ⟨by rw [Array.size_setIfInBounds]; exact hsz, upO σ 16 (.slice (some ⟨W.heap.size, 0, none⟩) 3 3), by simp [frO, upO], .inl ⟨by rw [getD_set_ne false (by decide)]; exact h23, hC.alloc _, gtrans hg (World.grownBy_alloc W _ _), AllO.next (i := 8) hall (by decide) (World.grownBy_alloc W subO _) (show CnO b B2 8 _ (W.alloc subO) from ⟨W.heap.size, rfl, by have := hC.lt; omega, heap_alloc_new W _⟩)⟩⟩

set_option maxRecDepth 8000 in
set_option maxHeartbeats 4000000 in
theorem st16 {w0 : World} {a : Option Addr} {len cap b B2 : Nat} {w W : World} {listed : Array Bool} {σ : Nat -> Value} {Q : Exit -> Act -> World -> Prop} (hlen : len <= 4096) (hcr : CodeRow w0 a len) (hB2 : B2 < w.heap.size) (hsz : listed.size = 24) (h23 : listed.getD 23 false = false) (hC : Cur w0 a len cap b W) (hg : w.grownBy W (some b)) (hall : AllO b B2 listed σ W) :
  ∀ ops, Tryz.f26.body.bind (opsI14 1) = some ops -> 16 ∈ Region.ready .any ops listed -> wpOp Tryz.prog ops Q 16 (fun a' w' => InvO w0 a len cap b w B2 (listed.setIfInBounds 16 true) a' w') (frO b B2 σ) W := by
 refine at_ops14 rfl (fun hi => ?_)
 refine wpOp_step rfl (fun K' hK => ?_)
 unfold frO
 go_simp
 refine hK _ _ ⟨by rw [Array.size_setIfInBounds]; exact hsz, upO σ 24 (.slice (some ⟨W.heap.size, 0, none⟩) 4 4), by simp [frO, upO], .inl ⟨by rw [getD_set_ne false (by decide)]; exact h23, hC.alloc _, gtrans hg (World.grownBy_alloc W _ _), AllO.next (i := 16) hall (by decide) (World.grownBy_alloc W forO _) (show CnO b B2 16 _ (W.alloc forO) from ⟨W.heap.size, rfl, by have := hC.lt; omega, heap_alloc_new W _⟩)⟩⟩

set_option maxRecDepth 8000 in
set_option maxHeartbeats 4000000 in
theorem st5 {w0 : World} {a : Option Addr} {len cap b B2 : Nat} {w W : World} {listed : Array Bool} {σ : Nat -> Value} {Q : Exit -> Act -> World -> Prop} (hlen : len <= 4096) (hcr : CodeRow w0 a len) (hB2 : B2 < w.heap.size) (hsz : listed.size = 24) (h23 : listed.getD 23 false = false) (hC : Cur w0 a len cap b W) (hg : w.grownBy W (some b)) (hall : AllO b B2 listed σ W) :
  ∀ ops, Tryz.f26.body.bind (opsI14 1) = some ops -> 5 ∈ Region.ready .any ops listed -> wpOp Tryz.prog ops Q 5 (fun a' w' => InvO w0 a len cap b w B2 (listed.setIfInBounds 5 true) a' w') (frO b B2 σ) W := by
 refine at_ops14 rfl (fun hi => ?_)
 have e0 : σ 12 = .pointer (some ⟨b, 0, none⟩) := hall 4 (by decide) (dep14 (g := .data) hi rfl (by simp) (by rfl))
 refine wpOp_step rfl (fun K' hK => ?_)
 unfold frO
 rw [e0]
 go_simp
 refine (cBelow 4 w0 a len cap b W hlen hcr hC (by decide) (by decide)).mono ?_
 rintro e W2 ⟨x, rfl, hx, hC2, hG2⟩
 refine hK _ _ ⟨by rw [Array.size_setIfInBounds]; exact hsz, upO σ 13 (.int .i64 (x : Int)), by simp [frO, upO, e0], .inl ⟨by rw [getD_set_ne false (by decide)]; exact h23, hC2, gtrans hg hG2, AllO.next (i := 5) hall (by decide) (hG2) (show CnO b B2 5 _ W2 from ⟨x, rfl, hx⟩)⟩⟩

set_option maxRecDepth 8000 in
set_option maxHeartbeats 4000000 in
theorem st10 {w0 : World} {a : Option Addr} {len cap b B2 : Nat} {w W : World} {listed : Array Bool} {σ : Nat -> Value} {Q : Exit -> Act -> World -> Prop} (hlen : len <= 4096) (hcr : CodeRow w0 a len) (hB2 : B2 < w.heap.size) (hsz : listed.size = 24) (h23 : listed.getD 23 false = false) (hC : Cur w0 a len cap b W) (hg : w.grownBy W (some b)) (hall : AllO b B2 listed σ W) :
  ∀ ops, Tryz.f26.body.bind (opsI14 1) = some ops -> 10 ∈ Region.ready .any ops listed -> wpOp Tryz.prog ops Q 10 (fun a' w' => InvO w0 a len cap b w B2 (listed.setIfInBounds 10 true) a' w') (frO b B2 σ) W := by
 refine at_ops14 rfl (fun hi => ?_)
 have e0 : σ 17 = .pointer (some ⟨b, 0, none⟩) := hall 9 (by decide) (dep14 (g := .data) hi rfl (by simp) (by rfl))
 refine wpOp_step rfl (fun K' hK => ?_)
 unfold frO
 rw [e0]
 go_simp
 refine (cBelow 3 w0 a len cap b W hlen hcr hC (by decide) (by decide)).mono ?_
 rintro e W2 ⟨x, rfl, hx, hC2, hG2⟩
 refine hK _ _ ⟨by rw [Array.size_setIfInBounds]; exact hsz, upO σ 18 (.int .i64 (x : Int)), by simp [frO, upO, e0], .inl ⟨by rw [getD_set_ne false (by decide)]; exact h23, hC2, gtrans hg hG2, AllO.next (i := 10) hall (by decide) (hG2) (show CnO b B2 10 _ W2 from ⟨x, rfl, hx⟩)⟩⟩

set_option maxRecDepth 8000 in
set_option maxHeartbeats 4000000 in
theorem st18 {w0 : World} {a : Option Addr} {len cap b B2 : Nat} {w W : World} {listed : Array Bool} {σ : Nat -> Value} {Q : Exit -> Act -> World -> Prop} (hlen : len <= 4096) (hcr : CodeRow w0 a len) (hB2 : B2 < w.heap.size) (hsz : listed.size = 24) (h23 : listed.getD 23 false = false) (hC : Cur w0 a len cap b W) (hg : w.grownBy W (some b)) (hall : AllO b B2 listed σ W) :
  ∀ ops, Tryz.f26.body.bind (opsI14 1) = some ops -> 18 ∈ Region.ready .any ops listed -> wpOp Tryz.prog ops Q 18 (fun a' w' => InvO w0 a len cap b w B2 (listed.setIfInBounds 18 true) a' w') (frO b B2 σ) W := by
 refine at_ops14 rfl (fun hi => ?_)
 have e0 : σ 25 = .pointer (some ⟨b, 0, none⟩) := hall 17 (by decide) (dep14 (g := .data) hi rfl (by simp) (by rfl))
 refine wpOp_step rfl (fun K' hK => ?_)
 unfold frO
 rw [e0]
 go_simp
 refine (cBelow 4 w0 a len cap b W hlen hcr hC (by decide) (by decide)).mono ?_
 rintro e W2 ⟨x, rfl, hx, hC2, hG2⟩
 refine hK _ _ ⟨by rw [Array.size_setIfInBounds]; exact hsz, upO σ 26 (.int .i64 (x : Int)), by simp [frO, upO, e0], .inl ⟨by rw [getD_set_ne false (by decide)]; exact h23, hC2, gtrans hg hG2, AllO.next (i := 18) hall (by decide) (hG2) (show CnO b B2 18 _ W2 from ⟨x, rfl, hx⟩)⟩⟩

set_option maxRecDepth 8000 in
set_option maxHeartbeats 4000000 in
theorem st14 {w0 : World} {a : Option Addr} {len cap b B2 : Nat} {w W : World} {listed : Array Bool} {σ : Nat -> Value} {Q : Exit -> Act -> World -> Prop} (hlen : len <= 4096) (hcr : CodeRow w0 a len) (hB2 : B2 < w.heap.size) (hsz : listed.size = 24) (h23 : listed.getD 23 false = false) (hC : Cur w0 a len cap b W) (hg : w.grownBy W (some b)) (hall : AllO b B2 listed σ W) :
  ∀ ops, Tryz.f26.body.bind (opsI14 1) = some ops -> 14 ∈ Region.ready .any ops listed -> wpOp Tryz.prog ops Q 14 (fun a' w' => InvO w0 a len cap b w B2 (listed.setIfInBounds 14 true) a' w') (frO b B2 σ) W := by
 refine at_ops14 rfl (fun hi => ?_)
 have e0 : σ 21 = .pointer (some ⟨b, 0, none⟩) := hall 13 (by decide) (dep14 (g := .data) hi rfl (by simp) (by rfl))
 refine wpOp_step rfl (fun K' hK => ?_)
 unfold frO
 rw [e0]
 go_simp
 refine (cBelowBig 300 w0 a len cap b W hlen hcr hC (by decide) (by decide)).mono ?_
 rintro e W2 ⟨x, rfl, hx, hC2, hG2⟩
 refine hK _ _ ⟨by rw [Array.size_setIfInBounds]; exact hsz, upO σ 22 (.int .i64 (x : Int)), by simp [frO, upO, e0], .inl ⟨by rw [getD_set_ne false (by decide)]; exact h23, hC2, gtrans hg hG2, AllO.next (i := 14) hall (by decide) (hG2) (show CnO b B2 14 _ W2 from ⟨x, rfl, hx⟩)⟩⟩

set_option maxRecDepth 8000 in
set_option maxHeartbeats 4000000 in
theorem st6 {w0 : World} {a : Option Addr} {len cap b B2 : Nat} {w W : World} {listed : Array Bool} {σ : Nat -> Value} {Q : Exit -> Act -> World -> Prop} (hlen : len <= 4096) (hcr : CodeRow w0 a len) (hB2 : B2 < w.heap.size) (hsz : listed.size = 24) (h23 : listed.getD 23 false = false) (hC : Cur w0 a len cap b W) (hg : w.grownBy W (some b)) (hall : AllO b B2 listed σ W) :
  ∀ ops, Tryz.f26.body.bind (opsI14 1) = some ops -> 6 ∈ Region.ready .any ops listed -> wpOp Tryz.prog ops Q 6 (fun a' w' => InvO w0 a len cap b w B2 (listed.setIfInBounds 6 true) a' w') (frO b B2 σ) W := by
 refine at_ops14 rfl (fun hi => ?_)
 have e1 : BlO b issO 4 (σ 11) W := hall 3 (by decide) (dep14 (g := .data) hi rfl (by simp) (by rfl))
 have e2 : NuO 4 (σ 13) := hall 5 (by decide) (dep14 (g := .data) hi rfl (by simp) (by rfl))
 obtain ⟨g, e1, hne, hh⟩ := e1
 obtain ⟨x, e2, hx⟩ := e2
 have hxi : (x : Int) < 4 := by omega
 refine wpOp_step rfl (fun K' hK => ?_)
 unfold frO
 rw [e1, e2]
 go_simp
 refine hK _ _ ⟨by rw [Array.size_setIfInBounds]; exact hsz, upO σ 14 (.pointer (some ⟨g, x, none⟩)), by simp [frO, upO, e1, e2], .inl ⟨by rw [getD_set_ne false (by decide)]; exact h23, hC, hg, AllO.next (i := 6) hall (by decide) (World.grownBy.refl _ _) (show CnO b B2 6 _ W from ⟨g, x, rfl, hx, hne, hh⟩)⟩⟩

set_option maxRecDepth 8000 in
set_option maxHeartbeats 4000000 in
theorem st11 {w0 : World} {a : Option Addr} {len cap b B2 : Nat} {w W : World} {listed : Array Bool} {σ : Nat -> Value} {Q : Exit -> Act -> World -> Prop} (hlen : len <= 4096) (hcr : CodeRow w0 a len) (hB2 : B2 < w.heap.size) (hsz : listed.size = 24) (h23 : listed.getD 23 false = false) (hC : Cur w0 a len cap b W) (hg : w.grownBy W (some b)) (hall : AllO b B2 listed σ W) :
  ∀ ops, Tryz.f26.body.bind (opsI14 1) = some ops -> 11 ∈ Region.ready .any ops listed -> wpOp Tryz.prog ops Q 11 (fun a' w' => InvO w0 a len cap b w B2 (listed.setIfInBounds 11 true) a' w') (frO b B2 σ) W := by
 refine at_ops14 rfl (fun hi => ?_)
 have e1 : BlO b subO 3 (σ 16) W := hall 8 (by decide) (dep14 (g := .data) hi rfl (by simp) (by rfl))
 have e2 : NuO 3 (σ 18) := hall 10 (by decide) (dep14 (g := .data) hi rfl (by simp) (by rfl))
 obtain ⟨g, e1, hne, hh⟩ := e1
 obtain ⟨x, e2, hx⟩ := e2
 have hxi : (x : Int) < 3 := by omega
 refine wpOp_step rfl (fun K' hK => ?_)
 unfold frO
 rw [e1, e2]
 go_simp
 refine hK _ _ ⟨by rw [Array.size_setIfInBounds]; exact hsz, upO σ 19 (.pointer (some ⟨g, x, none⟩)), by simp [frO, upO, e1, e2], .inl ⟨by rw [getD_set_ne false (by decide)]; exact h23, hC, hg, AllO.next (i := 11) hall (by decide) (World.grownBy.refl _ _) (show CnO b B2 11 _ W from ⟨g, x, rfl, hx, hne, hh⟩)⟩⟩

set_option maxRecDepth 8000 in
set_option maxHeartbeats 4000000 in
theorem st19 {w0 : World} {a : Option Addr} {len cap b B2 : Nat} {w W : World} {listed : Array Bool} {σ : Nat -> Value} {Q : Exit -> Act -> World -> Prop} (hlen : len <= 4096) (hcr : CodeRow w0 a len) (hB2 : B2 < w.heap.size) (hsz : listed.size = 24) (h23 : listed.getD 23 false = false) (hC : Cur w0 a len cap b W) (hg : w.grownBy W (some b)) (hall : AllO b B2 listed σ W) :
  ∀ ops, Tryz.f26.body.bind (opsI14 1) = some ops -> 19 ∈ Region.ready .any ops listed -> wpOp Tryz.prog ops Q 19 (fun a' w' => InvO w0 a len cap b w B2 (listed.setIfInBounds 19 true) a' w') (frO b B2 σ) W := by
 refine at_ops14 rfl (fun hi => ?_)
 have e1 : BlO b forO 4 (σ 24) W := hall 16 (by decide) (dep14 (g := .data) hi rfl (by simp) (by rfl))
 have e2 : NuO 4 (σ 26) := hall 18 (by decide) (dep14 (g := .data) hi rfl (by simp) (by rfl))
 obtain ⟨g, e1, hne, hh⟩ := e1
 obtain ⟨x, e2, hx⟩ := e2
 have hxi : (x : Int) < 4 := by omega
 refine wpOp_step rfl (fun K' hK => ?_)
 unfold frO
 rw [e1, e2]
 go_simp
 refine hK _ _ ⟨by rw [Array.size_setIfInBounds]; exact hsz, upO σ 27 (.pointer (some ⟨g, x, none⟩)), by simp [frO, upO, e1, e2], .inl ⟨by rw [getD_set_ne false (by decide)]; exact h23, hC, hg, AllO.next (i := 19) hall (by decide) (World.grownBy.refl _ _) (show CnO b B2 19 _ W from ⟨g, x, rfl, hx, hne, hh⟩)⟩⟩

set_option maxRecDepth 8000 in
set_option maxHeartbeats 4000000 in
theorem st7 {w0 : World} {a : Option Addr} {len cap b B2 : Nat} {w W : World} {listed : Array Bool} {σ : Nat -> Value} {Q : Exit -> Act -> World -> Prop} (hlen : len <= 4096) (hcr : CodeRow w0 a len) (hB2 : B2 < w.heap.size) (hsz : listed.size = 24) (h23 : listed.getD 23 false = false) (hC : Cur w0 a len cap b W) (hg : w.grownBy W (some b)) (hall : AllO b B2 listed σ W) :
  ∀ ops, Tryz.f26.body.bind (opsI14 1) = some ops -> 7 ∈ Region.ready .any ops listed -> wpOp Tryz.prog ops Q 7 (fun a' w' => InvO w0 a len cap b w B2 (listed.setIfInBounds 7 true) a' w') (frO b B2 σ) W := by
 refine at_ops14 rfl (fun hi => ?_)
 have e1 : AtO b issO 4 (σ 14) W := hall 6 (by decide) (dep14 (g := .data) hi rfl (by simp) (by rfl))
 obtain ⟨g, x, e1, hx, hne, hh⟩ := e1
 obtain ⟨s, hs, hs1, hs2⟩ := row4_at hh (by decide) (by decide) (by decide) (by decide) x hx
 refine wpOp_step rfl (fun K' hK => ?_)
 unfold frO
 rw [e1]
 go_simp
 refine hK _ _ ⟨by rw [Array.size_setIfInBounds]; exact hsz, upO σ 15 (.string s), by simp [frO, upO, e1], .inl ⟨by rw [getD_set_ne false (by decide)]; exact h23, hC, hg, AllO.next (i := 7) hall (by decide) (World.grownBy.refl _ _) (show CnO b B2 7 _ W from ⟨s, rfl, hs1, hs2⟩)⟩⟩

set_option maxRecDepth 8000 in
set_option maxHeartbeats 4000000 in
theorem st12 {w0 : World} {a : Option Addr} {len cap b B2 : Nat} {w W : World} {listed : Array Bool} {σ : Nat -> Value} {Q : Exit -> Act -> World -> Prop} (hlen : len <= 4096) (hcr : CodeRow w0 a len) (hB2 : B2 < w.heap.size) (hsz : listed.size = 24) (h23 : listed.getD 23 false = false) (hC : Cur w0 a len cap b W) (hg : w.grownBy W (some b)) (hall : AllO b B2 listed σ W) :
  ∀ ops, Tryz.f26.body.bind (opsI14 1) = some ops -> 12 ∈ Region.ready .any ops listed -> wpOp Tryz.prog ops Q 12 (fun a' w' => InvO w0 a len cap b w B2 (listed.setIfInBounds 12 true) a' w') (frO b B2 σ) W := by
 refine at_ops14 rfl (fun hi => ?_)
 have e1 : AtO b subO 3 (σ 19) W := hall 11 (by decide) (dep14 (g := .data) hi rfl (by simp) (by rfl))
 obtain ⟨g, x, e1, hx, hne, hh⟩ := e1
 obtain ⟨s, hs, hs1, hs2⟩ := row3_at hh (by decide) (by decide) (by decide) x hx
 refine wpOp_step rfl (fun K' hK => ?_)
 unfold frO
 rw [e1]
 go_simp
 refine hK _ _ ⟨by rw [Array.size_setIfInBounds]; exact hsz, upO σ 20 (.string s), by simp [frO, upO, e1], .inl ⟨by rw [getD_set_ne false (by decide)]; exact h23, hC, hg, AllO.next (i := 12) hall (by decide) (World.grownBy.refl _ _) (show CnO b B2 12 _ W from ⟨s, rfl, hs1, hs2⟩)⟩⟩

set_option maxRecDepth 8000 in
set_option maxHeartbeats 4000000 in
theorem st20 {w0 : World} {a : Option Addr} {len cap b B2 : Nat} {w W : World} {listed : Array Bool} {σ : Nat -> Value} {Q : Exit -> Act -> World -> Prop} (hlen : len <= 4096) (hcr : CodeRow w0 a len) (hB2 : B2 < w.heap.size) (hsz : listed.size = 24) (h23 : listed.getD 23 false = false) (hC : Cur w0 a len cap b W) (hg : w.grownBy W (some b)) (hall : AllO b B2 listed σ W) :
  ∀ ops, Tryz.f26.body.bind (opsI14 1) = some ops -> 20 ∈ Region.ready .any ops listed -> wpOp Tryz.prog ops Q 20 (fun a' w' => InvO w0 a len cap b w B2 (listed.setIfInBounds 20 true) a' w') (frO b B2 σ) W := by
 refine at_ops14 rfl (fun hi => ?_)
 have e1 : AtO b forO 4 (σ 27) W := hall 19 (by decide) (dep14 (g := .data) hi rfl (by simp) (by rfl))
 obtain ⟨g, x, e1, hx, hne, hh⟩ := e1
 obtain ⟨s, hs, hs1, hs2⟩ := row4_at hh (by decide) (by decide) (by decide) (by decide) x hx
 refine wpOp_step rfl (fun K' hK => ?_)
 unfold frO
 rw [e1]
 go_simp
 refine hK _ _ ⟨by rw [Array.size_setIfInBounds]; exact hsz, upO σ 28 (.string s), by simp [frO, upO, e1], .inl ⟨by rw [getD_set_ne false (by decide)]; exact h23, hC, hg, AllO.next (i := 20) hall (by decide) (World.grownBy.refl _ _) (show CnO b B2 20 _ W from ⟨s, rfl, hs1, hs2⟩)⟩⟩

set_option maxRecDepth 8000 in
set_option maxHeartbeats 4000000 in
theorem st15 {w0 : World} {a : Option Addr} {len cap b B2 : Nat} {w W : World} {listed : Array Bool} {σ : Nat -> Value} {Q : Exit -> Act -> World -> Prop} (hlen : len <= 4096) (hcr : CodeRow w0 a len) (hB2 : B2 < w.heap.size) (hsz : listed.size = 24) (h23 : listed.getD 23 false = false) (hC : Cur w0 a len cap b W) (hg : w.grownBy W (some b)) (hall : AllO b B2 listed σ W) :
  ∀ ops, Tryz.f26.body.bind (opsI14 1) = some ops -> 15 ∈ Region.ready .any ops listed -> wpOp Tryz.prog ops Q 15 (fun a' w' => InvO w0 a len cap b w B2 (listed.setIfInBounds 15 true) a' w') (frO b B2 σ) W := by
 refine at_ops14 rfl (fun hi => ?_)
 have e1 : NuO 300 (σ 22) := hall 14 (by decide) (dep14 (g := .data) hi rfl (by simp) (by rfl))
 obtain ⟨x, e1, hx⟩ := e1
 have hw : IntKind.i64.wrap (1000 + (x : Int)) = 1000 + (x : Int) := IntWalk.i64_in _ (by omega)
 refine wpOp_step rfl (fun K' hK => ?_)
 unfold frO
 rw [e1]
 go_simp
 refine hK _ _ ⟨by rw [Array.size_setIfInBounds]; exact hsz, upO σ 23 (.int .i64 (1000 + (x : Int))), by simp [frO, upO, e1], .inl ⟨by rw [getD_set_ne false (by decide)]; exact h23, hC, hg, AllO.next (i := 15) hall (by decide) (World.grownBy.refl _ _) (show CnO b B2 15 _ W from ⟨_, rfl⟩)⟩⟩

set_option maxRecDepth 8000 in
set_option maxHeartbeats 4000000 in
theorem st21 {w0 : World} {a : Option Addr} {len cap b B2 : Nat} {w W : World} {listed : Array Bool} {σ : Nat -> Value} {Q : Exit -> Act -> World -> Prop} (hlen : len <= 4096) (hcr : CodeRow w0 a len) (hB2 : B2 < w.heap.size) (hsz : listed.size = 24) (h23 : listed.getD 23 false = false) (hC : Cur w0 a len cap b W) (hg : w.grownBy W (some b)) (hall : AllO b B2 listed σ W) :
  ∀ ops, Tryz.f26.body.bind (opsI14 1) = some ops -> 21 ∈ Region.ready .any ops listed -> wpOp Tryz.prog ops Q 21 (fun a' w' => InvO w0 a len cap b w B2 (listed.setIfInBounds 21 true) a' w') (frO b B2 σ) W := by
 refine at_ops14 rfl (fun hi => ?_)
 have e1 : TxO (σ 10) := hall 2 (by decide) (dep14 (g := .data) hi rfl (by simp) (by rfl))
 have e2 : TxO (σ 15) := hall 7 (by decide) (dep14 (g := .data) hi rfl (by simp) (by rfl))
 have e3 : TxO (σ 20) := hall 12 (by decide) (dep14 (g := .data) hi rfl (by simp) (by rfl))
 have e4 : ∃ z : Int, σ 23 = .int .i64 z := hall 15 (by decide) (dep14 (g := .data) hi rfl (by simp) (by rfl))
 have e5 : TxO (σ 28) := hall 20 (by decide) (dep14 (g := .data) hi rfl (by simp) (by rfl))
 obtain ⟨t1, e1, p1, q1⟩ := e1
 obtain ⟨t2, e2, p2, q2⟩ := e2
 obtain ⟨t3, e3, p3, q3⟩ := e3
 obtain ⟨z, e4⟩ := e4
 obtain ⟨t5, e5, p5, q5⟩ := e5
 refine wpOp_step rfl (fun K' hK => ?_)
 unfold frO
 rw [e1, e2, e3, e4, e5]
 go_simp
 refine hK _ _ ⟨by rw [Array.size_setIfInBounds]; exact hsz, upO σ 29 (clV ⟨t1, t2, t3, z, 0, t5, ⟨#[]⟩, []⟩ (.slice none 0 0)), by simp [frO, upO, e1, e2, e3, e4, e5, clV], .inl ⟨by rw [getD_set_ne false (by decide)]; exact h23, hC, hg, AllO.next (i := 21) hall (by decide) (World.grownBy.refl _ _) (show CnO b B2 21 _ W from ⟨⟨t1, t2, t3, z, 0, t5, ⟨#[]⟩, []⟩, rfl, ⟨Nat.le_trans q1 (by decide), Nat.le_trans q2 (by decide), Nat.le_trans q3 (by decide), Nat.le_trans q5 (by decide), Nat.zero_le _, Nat.zero_le _, fun x (hx : x ∈ ([] : List At)) => absurd hx List.not_mem_nil⟩, rfl, p2, p3, p5⟩)⟩⟩

set_option maxRecDepth 8000 in
set_option maxHeartbeats 4000000 in
theorem st22 {w0 : World} {a : Option Addr} {len cap b B2 : Nat} {w W : World} {listed : Array Bool} {σ : Nat -> Value} {Q : Exit -> Act -> World -> Prop} (hlen : len <= 4096) (hcr : CodeRow w0 a len) (hB2 : B2 < w.heap.size) (hsz : listed.size = 24) (h23 : listed.getD 23 false = false) (hC : Cur w0 a len cap b W) (hg : w.grownBy W (some b)) (hall : AllO b B2 listed σ W) :
  ∀ ops, Tryz.f26.body.bind (opsI14 1) = some ops -> 22 ∈ Region.ready .any ops listed -> wpOp Tryz.prog ops Q 22 (fun a' w' => InvO w0 a len cap b w B2 (listed.setIfInBounds 22 true) a' w') (frO b B2 σ) W := by
 refine at_ops14 rfl (fun hi => ?_)
 refine wpOp_step rfl (fun K' hK => ?_)
 unfold frO
 go_simp
 refine hK _ _ ⟨by rw [Array.size_setIfInBounds]; exact hsz, upO σ 3 (.pointer (some ⟨W.heap.size, 0, none⟩)), by simp [frO, upO], .inl ⟨by rw [getD_set_ne false (by decide)]; exact h23, hC.alloc _, gtrans hg (World.grownBy_alloc W _ _), AllO.next (i := 22) hall (by decide) (World.grownBy_alloc W zerO _) (show CnO b B2 22 _ (W.alloc zerO) from ⟨W.heap.size, rfl, by have := hC.lt; omega, Nat.lt_of_lt_of_le hB2 hg.size, heap_alloc_new W _⟩)⟩⟩

end Go.Proofs.YtlpbbkaelbafdaaGreatDoor

namespace Go.Proofs.YtlpbbkaelbafdaaGreatDoor
open Go.RowKit

theorem cur_set14 {w0 : World} {a : Option Addr} {len cap b g i : Nat} {W : World} {u : Value} (h : Cur w0 a len cap b W) (hne : ¬ g = b) (hg : w0.heap.size <= g) : Cur w0 a len cap b (W.setCell ⟨g, i, none⟩ u) := by
 obtain ⟨c1, c2, i', h', k1, k2, k3⟩ := h
 exact ⟨c1, c2.setCell (show w0.heap.size <= g from hg) u, i', h', k1, k2, (Below.heap_setCell _ _ _ _ (fun e => hne e.symm)).trans k3⟩

set_option maxRecDepth 8000 in
set_option maxHeartbeats 4000000 in
theorem st23 {w0 : World} {a : Option Addr} {len cap b B2 : Nat} {w W : World} {listed : Array Bool} {σ : Nat -> Value} {Q : Exit -> Act -> World -> Prop} (hB2 : w.heap.size = B2 + 1) (hw0 : w0.heap.size <= B2) (hsz : listed.size = 24) (hC : Cur w0 a len cap b W) (hg : w.grownBy W (some b)) (hall : AllO b B2 listed σ W) :
  ∀ ops, Tryz.f26.body.bind (opsI14 1) = some ops -> 23 ∈ Region.ready .any ops listed -> wpOp Tryz.prog ops Q 23 (fun a' w' => InvO w0 a len cap b w B2 (listed.setIfInBounds 23 true) a' w') (frO b B2 σ) W := by
 refine at_ops14 rfl (fun hi => ?_)
 have e1 : ∃ g, σ 3 = .pointer (some ⟨g, 0, none⟩) /\ (¬ g = b) /\ B2 < g /\ W.heap[g]? = some zerO := hall 22 (by decide) (dep14 (g := .data) hi rfl (by simp) (by rfl))
 have e2 : ∃ c : Cm, σ 29 = clV c (.slice none 0 0) /\ CmSz 100 c /\ c.facts = [] /\ (¬ c.iss.size = 0) /\ (¬ c.sub.size = 0) /\ ¬ c.whom.size = 0 := hall 21 (by decide) (dep14 (g := .data) hi rfl (by simp) (by rfl))
 have hl : ∀ j, j < 23 -> listed.getD j false = true := fun j hj => by
  match j, hj with
  | 0, _ => exact dep14 (g := .phase) hi rfl (by simp) (by rfl)
  | 1, _ => exact dep14 (g := .phase) hi rfl (by simp) (by rfl)
  | 2, _ => exact dep14 (g := .phase) hi rfl (by simp) (by rfl)
  | 3, _ => exact dep14 (g := .phase) hi rfl (by simp) (by rfl)
  | 4, _ => exact dep14 (g := .phase) hi rfl (by simp) (by rfl)
  | 5, _ => exact dep14 (g := .phase) hi rfl (by simp) (by rfl)
  | 6, _ => exact dep14 (g := .phase) hi rfl (by simp) (by rfl)
  | 7, _ => exact dep14 (g := .phase) hi rfl (by simp) (by rfl)
  | 8, _ => exact dep14 (g := .phase) hi rfl (by simp) (by rfl)
  | 9, _ => exact dep14 (g := .phase) hi rfl (by simp) (by rfl)
  | 10, _ => exact dep14 (g := .phase) hi rfl (by simp) (by rfl)
  | 11, _ => exact dep14 (g := .phase) hi rfl (by simp) (by rfl)
  | 12, _ => exact dep14 (g := .phase) hi rfl (by simp) (by rfl)
  | 13, _ => exact dep14 (g := .phase) hi rfl (by simp) (by rfl)
  | 14, _ => exact dep14 (g := .phase) hi rfl (by simp) (by rfl)
  | 15, _ => exact dep14 (g := .phase) hi rfl (by simp) (by rfl)
  | 16, _ => exact dep14 (g := .phase) hi rfl (by simp) (by rfl)
  | 17, _ => exact dep14 (g := .phase) hi rfl (by simp) (by rfl)
  | 18, _ => exact dep14 (g := .phase) hi rfl (by simp) (by rfl)
  | 19, _ => exact dep14 (g := .phase) hi rfl (by simp) (by rfl)
  | 20, _ => exact dep14 (g := .phase) hi rfl (by simp) (by rfl)
  | 21, _ => exact dep14 (g := .phase) hi rfl (by simp) (by rfl)
  | 22, _ => exact dep14 (g := .phase) hi rfl (by simp) (by rfl)
  | n + 23, h => exact absurd h (by omega)
 obtain ⟨g, e1, hne, hbg, hh⟩ := e1
 obtain ⟨c, e2, hz, hf, p1, p2, p3⟩ := e2
 unfold zerO at hh
 unfold clV at e2
 obtain ⟨⟨y0, y1, y2, y3, y4, y5, y6, y7⟩, yf0, yf1, yf2, yf3, yf4, yf5, yf6, yf7⟩ := box8 hh
 have k0 := heap_setCell_same W g 0 _ _ (.string c.id) hh
 have k1 := heap_setCell_same _ g 1 _ _ (.string c.iss) k0
 have k2 := heap_setCell_same _ g 2 _ _ (.string c.sub) k1
 have k3 := heap_setCell_same _ g 3 _ _ (.int .i64 c.frm) k2
 have k4 := heap_setCell_same _ g 4 _ _ (.int .i64 c.til) k3
 have k5 := heap_setCell_same _ g 5 _ _ (.string c.whom) k4
 have k6 := heap_setCell_same _ g 6 _ _ (.string c.ans) k5
 have k7 := heap_setCell_same _ g 7 _ _ (.slice none 0 0) k6
 have K7 := hid k7
 clear k0 k1 k2 k3 k4 k5 k6 k7
 refine wpOp_step rfl (fun K' hK => ?_)
 unfold frO
 rw [e1, e2]
 go_simp
 refine hK _ _ ⟨by rw [Array.size_setIfInBounds]; exact hsz, σ, by simp [frO, e1, e2], .inr ⟨fun j hj => ?_, g, c, e1, hne, hbg, K7.out, hz, hf, p1, p2, p3, ?_, ?_⟩⟩
 ·by_cases h : j = 23
  ·subst h
   simp [Array.getD, hsz]
  ·rw [getD_set_ne true (fun x => h x.symm)]
   have := hl j (by omega)
   have hlt : j < listed.size := by omega
   simp [Array.getD, hlt] at this ⊢
   exact this
 ·iterate 8 refine cur_set14 ?_ hne (by omega)
  exact hC
 ·iterate 8 refine grown_set ?_ (by omega)
  exact hg

theorem some_ready {ops : Array Oper} {listed : Array Bool} (hsz : listed.size = 24) (hops : ∀ i, i < 24 -> ∃ o, ops[i]? = some o /\ ∀ e ∈ o.after, e.on < i) : ∀ i, i < 24 -> listed.getD i false = false -> Region.ready .any ops listed = [] -> False := by
 intro i
 induction i using Nat.strongRecOn with
 | _ i ih =>
  intro hi hl hr
  obtain ⟨o, ho, hlt⟩ := hops i hi
  by_cases hall : ∀ e ∈ o.after, listed.getD e.on false = true
  ·have hm : i ∈ Region.ready .any ops listed := mem_ready.2 ⟨by
    have hlt : i < listed.size := by omega
    simp [Array.getD, hlt] at hl ⊢
    exact hl, o, ho, fun e he _ => hall e he⟩
   rw [hr] at hm
   cases hm
  ·obtain ⟨e, he⟩ := Classical.not_forall.1 hall
   obtain ⟨he1, he2⟩ := Classical.not_imp.1 he
   have := hlt e he1
   exact ih e.on this (by omega) (by simpa using he2) hr

def okO (ops : Array Oper) : Bool := (List.range 24).all fun i => match ops[i]? with
 | some o => o.after.toList.all fun e => decide (e.on < i)
 | none => false

theorem okO_of {ops : Array Oper} (h : okO ops = true) : ∀ i, i < 24 -> ∃ o, ops[i]? = some o /\ ∀ e ∈ o.after, e.on < i := by
 intro i hi
 have h1 := List.all_eq_true.1 h i (List.mem_range.2 hi)
 cases ho : ops[i]? with
 | none => rw [ho] at h1; cases h1
 | some o =>
  rw [ho] at h1
  exact ⟨o, rfl, fun e he => of_decide_eq_true (List.all_eq_true.1 h1 e (by simpa using he))⟩

set_option maxRecDepth 8000 in
set_option maxHeartbeats 4000000 in
theorem reg14 {w0 : World} {a : Option Addr} {len cap b B2 : Nat} {w : World} {Q : Exit -> Act -> World -> Prop} (σ0 : Nat -> Value) (hlen : len <= 4096) (hcr : CodeRow w0 a len) (hB2 : w.heap.size = B2 + 1) (hw0 : w0.heap.size <= B2) (hC : Cur w0 a len cap b w) (hQ : ∀ σ W, FinO w0 a len cap b w B2 σ W -> Q .normal (frO b B2 σ) W) :
  ∀ ops, Tryz.f26.body.bind (opsI14 1) = some ops -> (Code.region 1 ops true).wp Tryz.prog Q (frO b B2 σ0) w := by
 refine at_ops14 rfl ?_
 refine region_inv (by kernel_rfl) (InvO w0 a len cap b w B2) (fun listed A W i hI hi => ?_) (fun listed A W hI hr => ?_) ?_
 ·obtain ⟨hsz, σ, rfl, h⟩ := hI
  have hi24 : i < 24 := by
   obtain ⟨_, o, ho, _⟩ := mem_ready.1 hi
   exact (Array.getElem?_eq_some_iff.1 ho).1
  rcases h with ⟨h23, hC, hg, hall⟩ | ⟨hl, _⟩
  ·match i, hi24 with
   | 0, _ => exact st0 hlen hcr (by omega) hsz h23 hC hg hall _ rfl hi
   | 1, _ => exact st1 hlen hcr (by omega) hsz h23 hC hg hall _ rfl hi
   | 2, _ => exact st2 hlen hcr (by omega) hsz h23 hC hg hall _ rfl hi
   | 3, _ => exact st3 hlen hcr (by omega) hsz h23 hC hg hall _ rfl hi
   | 4, _ => exact st4 hlen hcr (by omega) hsz h23 hC hg hall _ rfl hi
   | 5, _ => exact st5 hlen hcr (by omega) hsz h23 hC hg hall _ rfl hi
   | 6, _ => exact st6 hlen hcr (by omega) hsz h23 hC hg hall _ rfl hi
   | 7, _ => exact st7 hlen hcr (by omega) hsz h23 hC hg hall _ rfl hi
   | 8, _ => exact st8 hlen hcr (by omega) hsz h23 hC hg hall _ rfl hi
   | 9, _ => exact st9 hlen hcr (by omega) hsz h23 hC hg hall _ rfl hi
   | 10, _ => exact st10 hlen hcr (by omega) hsz h23 hC hg hall _ rfl hi
   | 11, _ => exact st11 hlen hcr (by omega) hsz h23 hC hg hall _ rfl hi
   | 12, _ => exact st12 hlen hcr (by omega) hsz h23 hC hg hall _ rfl hi
   | 13, _ => exact st13 hlen hcr (by omega) hsz h23 hC hg hall _ rfl hi
   | 14, _ => exact st14 hlen hcr (by omega) hsz h23 hC hg hall _ rfl hi
   | 15, _ => exact st15 hlen hcr (by omega) hsz h23 hC hg hall _ rfl hi
   | 16, _ => exact st16 hlen hcr (by omega) hsz h23 hC hg hall _ rfl hi
   | 17, _ => exact st17 hlen hcr (by omega) hsz h23 hC hg hall _ rfl hi
   | 18, _ => exact st18 hlen hcr (by omega) hsz h23 hC hg hall _ rfl hi
   | 19, _ => exact st19 hlen hcr (by omega) hsz h23 hC hg hall _ rfl hi
   | 20, _ => exact st20 hlen hcr (by omega) hsz h23 hC hg hall _ rfl hi
   | 21, _ => exact st21 hlen hcr (by omega) hsz h23 hC hg hall _ rfl hi
   | 22, _ => exact st22 hlen hcr (by omega) hsz h23 hC hg hall _ rfl hi
   | 23, _ => exact st23 hB2 hw0 hsz hC hg hall _ rfl hi
   | n + 24, h => exact absurd h (by omega)
  ·have h1 := (mem_ready.1 hi).1
   rw [hl i hi24] at h1
   cases h1
 ·obtain ⟨hsz, σ, rfl, h⟩ := hI
  rcases h with ⟨h23, _⟩ | ⟨_, hF⟩
  ·exact (some_ready hsz (okO_of (by kernel_rfl)) 23 (by decide) h23 hr).elim
  ·exact hQ σ W hF
 ·refine ⟨by simp, σ0, rfl, .inl ⟨by simp [Array.getD], hC.drewN 1, g_drewN (World.grownBy.refl _ _) 1, fun j hj h => ?_⟩⟩
  have : (Array.replicate 24 false).getD j false = true := h
  simp [Array.getD] at this

end Go.Proofs.YtlpbbkaelbafdaaGreatDoor

namespace Go.Proofs.YtlpbbkaelbafdaaGreatDoor
open Go.RowKit

def opsL14 (i : Nat) : Code -> Option (Array Oper)
 | .region id ops _ => if id = i then some ops else none
 | .seq x y => match opsL14 i x with
  | some c => some c
  | none => opsL14 i y
 | .cond _ x y => match opsL14 i x with
  | some c => some c
  | none => opsL14 i y
 | .block _ x => opsL14 i x
 | .loop x => opsL14 i x
 | _ => none

def nmO : Obj := .cells #[.string ⟨#[114, 111, 108, 101]⟩, .string ⟨#[109, 97, 105, 108]⟩, .string ⟨#[100, 101, 112, 116]⟩] 9 (0, 0)
def zaO : Obj := .cells #[.string ⟨#[]⟩, .string ⟨#[]⟩] 40 (0, 0)
def TyO (v : Value) : Prop := ∃ t : ByteArray, v = .string t /\ t.size <= 10
def TzO (v : Value) : Prop := ∃ t : ByteArray, v = .string t /\ t.size <= 20
def TwO (v : Value) : Prop := ∃ t : ByteArray, v = .string t /\ t.size <= 30

def CnP (b B : Nat) (j : Nat) (v : Value) (W : World) : Prop :=
 match j with
 | 0 => BlO b nmO 3 v W
 | 1 | 5 => v = .pointer (some ⟨b, 0, none⟩)
 | 2 => NuO 3 v
 | 3 => AtO b nmO 3 v W
 | 4 => TxO v
 | 6 => TyO v
 | 7 => TzO v
 | 8 => TwO v
 | 9 => ∃ s t : ByteArray, v = .agg #[.string s, .string t] /\ s.size <= 30 /\ t.size <= 30
 | 10 => ∃ g, v = .pointer (some ⟨g, 0, none⟩) /\ (¬ g = b) /\ B <= g /\ W.heap[g]? = some zaO
 | _ => True

def slP (j : Nat) : Nat := if j <= 9 then 48 + j else 5

theorem CnP.grown {b B j : Nat} {v : Value} {W W' : World} (h : CnP b B j v W) (hg : W.grownBy W' (some b)) : CnP b B j v W' := by
 unfold CnP at h ⊢
 split at h
 all_goals first
  | exact h
  | exact BlO.grown h hg
  | exact AtO.grown h hg
  | (obtain ⟨g, e, hne, hb, hh⟩ := h; exact ⟨g, e, hne, hb, (hg.block g (lt_of_heap hh) (fun x => hne (Option.some.inj x))).trans hh⟩)

def frP (b : Nat) (σ : Nat -> Value) : Act := { tmps := #[.pointer (some ⟨b, 0, none⟩), σ 1, σ 2, σ 3, σ 4, σ 5, σ 6, σ 7, σ 8, σ 9, σ 10, σ 11, σ 12, σ 13, σ 14, σ 15, σ 16, σ 17, σ 18, σ 19, σ 20, σ 21, σ 22, σ 23, σ 24, σ 25, σ 26, σ 27, σ 28, σ 29, σ 30, σ 31, σ 32, σ 33, σ 34, σ 35, σ 36, σ 37, σ 38, σ 39, σ 40, σ 41, σ 42, σ 43, σ 44, σ 45, σ 46, σ 47, σ 48, σ 49, σ 50, σ 51, σ 52, σ 53, σ 54, σ 55, σ 56, σ 57, σ 58, σ 59, σ 60, σ 61, σ 62, σ 63, σ 64, σ 65, σ 66, σ 67, σ 68, σ 69, σ 70, σ 71, σ 72, σ 73, σ 74], defers := [] }

def AllP (b B : Nat) (listed : Array Bool) (σ : Nat -> Value) (W : World) : Prop := ∀ j, j < 11 -> listed.getD j false = true -> CnP b B j (σ (slP j)) W

theorem slP_inj {i j : Nat} (hi : i < 11) (hj : j < 11) (h : slP i = slP j) : i = j := by
 unfold slP at h
 split at h <;> split at h <;> omega

theorem AllP.next {b B i : Nat} {listed : Array Bool} {σ : Nat -> Value} {v : Value} {W W' : World} (h : AllP b B listed σ W) (hi : i < 11) (hg : W.grownBy W' (some b)) (hv : CnP b B i v W') : AllP b B (listed.setIfInBounds i true) (upO σ (slP i) v) W' := by
 intro j hj hl
 by_cases hji : j = i
 ·subst hji
  show CnP b B j (if slP j = slP j then v else _) W'
  rw [if_pos rfl]
  exact hv
 ·have e : (listed.setIfInBounds i true).getD j false = listed.getD j false := getD_set_ne false (fun x => hji x.symm)
  rw [e] at hl
  show CnP b B j (if slP j = slP i then v else σ (slP j)) W'
  rw [if_neg (fun x => hji (slP_inj hj hi x))]
  exact (h j hj hl).grown hg

def SameP (σ0 σ : Nat -> Value) : Prop := ∀ k, ¬ k = 5 -> (k < 48 \/ 57 < k) -> σ k = σ0 k

theorem SameP.up {σ0 σ : Nat -> Value} {k : Nat} {v : Value} (h : SameP σ0 σ) (hk : k = 5 \/ (48 <= k /\ k <= 57)) : SameP σ0 (upO σ k v) := fun j h1 h2 => by
 show (if j = k then v else σ j) = _
 rw [if_neg (by omega)]
 exact h j h1 h2

def FinP (w0 : World) (a : Option Addr) (len cap b : Nat) (w : World) (σ : Nat -> Value) (W : World) : Prop :=
 ∃ g s t, σ 5 = .pointer (some ⟨g, 0, none⟩) /\ (¬ g = b) /\ w.heap.size <= g /\ W.heap[g]? = some (.cells #[.string s, .string t] 40 (0, 0)) /\ s.size <= 30 /\ t.size <= 30 /\ Cur w0 a len cap b W /\ w.grownBy W (some b)

def InvP (w0 : World) (a : Option Addr) (len cap b : Nat) (w : World) (σ0 : Nat -> Value) (listed : Array Bool) (A : Act) (W : World) : Prop :=
 listed.size = 12 /\ ∃ σ, A = frP b σ /\ SameP σ0 σ /\ ((listed.getD 11 false = false /\ Cur w0 a len cap b W /\ w.grownBy W (some b) /\ AllP b w.heap.size listed σ W) \/ ((∀ j, j < 12 -> listed.getD j true = true) /\ FinP w0 a len cap b w σ W))

set_option maxRecDepth 8000 in
set_option maxHeartbeats 4000000 in
theorem sp0 {w0 : World} {a : Option Addr} {len cap b : Nat} {w W : World} {listed : Array Bool} {σ0 σ : Nat -> Value} {Q : Exit -> Act -> World -> Prop} (hlen : len <= 4096) (hcr : CodeRow w0 a len) (hsz : listed.size = 12) (hsame : SameP σ0 σ) (h11 : listed.getD 11 false = false) (hC : Cur w0 a len cap b W) (hg : w.grownBy W (some b)) (hall : AllP b w.heap.size listed σ W) :
  ∀ ops, Tryz.f26.body.bind (opsL14 8) = some ops -> 0 ∈ Region.ready .any ops listed -> wpOp Tryz.prog ops Q 0 (fun a' w' => InvP w0 a len cap b w σ0 (listed.setIfInBounds 0 true) a' w') (frP b σ) W := by
 refine at_ops14 rfl (fun hi => ?_)
 refine wpOp_step rfl (fun K' hK => ?_)
 unfold frP
 go_simp
 refine hK _ _ ⟨by rw [Array.size_setIfInBounds]; exact hsz, upO σ 48 (.slice (some ⟨W.heap.size, 0, none⟩) 3 3), by simp [frP, upO], hsame.up (by decide), .inl ⟨by rw [getD_set_ne false (by decide)]; exact h11, hC.alloc _, gtrans hg (World.grownBy_alloc W _ _), AllP.next (i := 0) hall (by decide) (World.grownBy_alloc W nmO _) (show CnP b w.heap.size 0 _ (W.alloc nmO) from ⟨W.heap.size, rfl, by have := hC.lt; omega, heap_alloc_new W _⟩)⟩⟩

set_option maxRecDepth 8000 in
set_option maxHeartbeats 4000000 in
theorem sp1 {w0 : World} {a : Option Addr} {len cap b : Nat} {w W : World} {listed : Array Bool} {σ0 σ : Nat -> Value} {Q : Exit -> Act -> World -> Prop} (hlen : len <= 4096) (hcr : CodeRow w0 a len) (hsz : listed.size = 12) (hsame : SameP σ0 σ) (h11 : listed.getD 11 false = false) (hC : Cur w0 a len cap b W) (hg : w.grownBy W (some b)) (hall : AllP b w.heap.size listed σ W) :
  ∀ ops, Tryz.f26.body.bind (opsL14 8) = some ops -> 1 ∈ Region.ready .any ops listed -> wpOp Tryz.prog ops Q 1 (fun a' w' => InvP w0 a len cap b w σ0 (listed.setIfInBounds 1 true) a' w') (frP b σ) W := by
 refine at_ops14 rfl (fun hi => ?_)
 refine wpOp_step rfl (fun K' hK => ?_)
 unfold frP
 go_simp
 refine hK _ _ ⟨by rw [Array.size_setIfInBounds]; exact hsz, upO σ 49 (.pointer (some ⟨b, 0, none⟩)), by simp [frP, upO], hsame.up (by decide), .inl ⟨by rw [getD_set_ne false (by decide)]; exact h11, hC, hg, AllP.next (i := 1) hall (by decide) (World.grownBy.refl _ _) (show CnP b w.heap.size 1 _ W from rfl)⟩⟩

set_option maxRecDepth 8000 in
set_option maxHeartbeats 4000000 in
theorem sp5 {w0 : World} {a : Option Addr} {len cap b : Nat} {w W : World} {listed : Array Bool} {σ0 σ : Nat -> Value} {Q : Exit -> Act -> World -> Prop} (hlen : len <= 4096) (hcr : CodeRow w0 a len) (hsz : listed.size = 12) (hsame : SameP σ0 σ) (h11 : listed.getD 11 false = false) (hC : Cur w0 a len cap b W) (hg : w.grownBy W (some b)) (hall : AllP b w.heap.size listed σ W) :
  ∀ ops, Tryz.f26.body.bind (opsL14 8) = some ops -> 5 ∈ Region.ready .any ops listed -> wpOp Tryz.prog ops Q 5 (fun a' w' => InvP w0 a len cap b w σ0 (listed.setIfInBounds 5 true) a' w') (frP b σ) W := by
 refine at_ops14 rfl (fun hi => ?_)
 refine wpOp_step rfl (fun K' hK => ?_)
 unfold frP
 go_simp
 refine hK _ _ ⟨by rw [Array.size_setIfInBounds]; exact hsz, upO σ 53 (.pointer (some ⟨b, 0, none⟩)), by simp [frP, upO], hsame.up (by decide), .inl ⟨by rw [getD_set_ne false (by decide)]; exact h11, hC, hg, AllP.next (i := 5) hall (by decide) (World.grownBy.refl _ _) (show CnP b w.heap.size 5 _ W from rfl)⟩⟩

set_option maxRecDepth 8000 in
set_option maxHeartbeats 4000000 in
theorem sp2 {w0 : World} {a : Option Addr} {len cap b : Nat} {w W : World} {listed : Array Bool} {σ0 σ : Nat -> Value} {Q : Exit -> Act -> World -> Prop} (hlen : len <= 4096) (hcr : CodeRow w0 a len) (hsz : listed.size = 12) (hsame : SameP σ0 σ) (h11 : listed.getD 11 false = false) (hC : Cur w0 a len cap b W) (hg : w.grownBy W (some b)) (hall : AllP b w.heap.size listed σ W) :
  ∀ ops, Tryz.f26.body.bind (opsL14 8) = some ops -> 2 ∈ Region.ready .any ops listed -> wpOp Tryz.prog ops Q 2 (fun a' w' => InvP w0 a len cap b w σ0 (listed.setIfInBounds 2 true) a' w') (frP b σ) W := by
 refine at_ops14 rfl (fun hi => ?_)
 have e0 : σ 49 = .pointer (some ⟨b, 0, none⟩) := hall 1 (by decide) (dep14 (g := .data) hi rfl (by simp) (by rfl))
 refine wpOp_step rfl (fun K' hK => ?_)
 unfold frP
 rw [e0]
 go_simp
 refine (cBelow 3 w0 a len cap b W hlen hcr hC (by decide) (by decide)).mono ?_
 rintro e W2 ⟨x, rfl, hx, hC2, hG2⟩
 refine hK _ _ ⟨by rw [Array.size_setIfInBounds]; exact hsz, upO σ 50 (.int .i64 (x : Int)), by simp [frP, upO, e0], hsame.up (by decide), .inl ⟨by rw [getD_set_ne false (by decide)]; exact h11, hC2, gtrans hg hG2, AllP.next (i := 2) hall (by decide) (hG2) (show CnP b w.heap.size 2 _ W2 from ⟨x, rfl, hx⟩)⟩⟩

set_option maxRecDepth 8000 in
set_option maxHeartbeats 4000000 in
theorem sp3 {w0 : World} {a : Option Addr} {len cap b : Nat} {w W : World} {listed : Array Bool} {σ0 σ : Nat -> Value} {Q : Exit -> Act -> World -> Prop} (hlen : len <= 4096) (hcr : CodeRow w0 a len) (hsz : listed.size = 12) (hsame : SameP σ0 σ) (h11 : listed.getD 11 false = false) (hC : Cur w0 a len cap b W) (hg : w.grownBy W (some b)) (hall : AllP b w.heap.size listed σ W) :
  ∀ ops, Tryz.f26.body.bind (opsL14 8) = some ops -> 3 ∈ Region.ready .any ops listed -> wpOp Tryz.prog ops Q 3 (fun a' w' => InvP w0 a len cap b w σ0 (listed.setIfInBounds 3 true) a' w') (frP b σ) W := by
 refine at_ops14 rfl (fun hi => ?_)
 have e1 : BlO b nmO 3 (σ 48) W := hall 0 (by decide) (dep14 (g := .data) hi rfl (by simp) (by rfl))
 have e2 : NuO 3 (σ 50) := hall 2 (by decide) (dep14 (g := .data) hi rfl (by simp) (by rfl))
 obtain ⟨g, e1, hne, hh⟩ := e1
 obtain ⟨x, e2, hx⟩ := e2
 have hxi : (x : Int) < 3 := by omega
 refine wpOp_step rfl (fun K' hK => ?_)
 unfold frP
 rw [e1, e2]
 go_simp
 refine hK _ _ ⟨by rw [Array.size_setIfInBounds]; exact hsz, upO σ 51 (.pointer (some ⟨g, x, none⟩)), by simp [frP, upO, e1, e2], hsame.up (by decide), .inl ⟨by rw [getD_set_ne false (by decide)]; exact h11, hC, hg, AllP.next (i := 3) hall (by decide) (World.grownBy.refl _ _) (show CnP b w.heap.size 3 _ W from ⟨g, x, rfl, hx, hne, hh⟩)⟩⟩

set_option maxRecDepth 8000 in
set_option maxHeartbeats 4000000 in
theorem sp4 {w0 : World} {a : Option Addr} {len cap b : Nat} {w W : World} {listed : Array Bool} {σ0 σ : Nat -> Value} {Q : Exit -> Act -> World -> Prop} (hlen : len <= 4096) (hcr : CodeRow w0 a len) (hsz : listed.size = 12) (hsame : SameP σ0 σ) (h11 : listed.getD 11 false = false) (hC : Cur w0 a len cap b W) (hg : w.grownBy W (some b)) (hall : AllP b w.heap.size listed σ W) :
  ∀ ops, Tryz.f26.body.bind (opsL14 8) = some ops -> 4 ∈ Region.ready .any ops listed -> wpOp Tryz.prog ops Q 4 (fun a' w' => InvP w0 a len cap b w σ0 (listed.setIfInBounds 4 true) a' w') (frP b σ) W := by
 refine at_ops14 rfl (fun hi => ?_)
 have e1 : AtO b nmO 3 (σ 51) W := hall 3 (by decide) (dep14 (g := .data) hi rfl (by simp) (by rfl))
 obtain ⟨g, x, e1, hx, hne, hh⟩ := e1
 obtain ⟨s, hs, hs1, hs2⟩ := row3_at hh (by decide) (by decide) (by decide) x hx
 refine wpOp_step rfl (fun K' hK => ?_)
 unfold frP
 rw [e1]
 go_simp
 refine hK _ _ ⟨by rw [Array.size_setIfInBounds]; exact hsz, upO σ 52 (.string s), by simp [frP, upO, e1], hsame.up (by decide), .inl ⟨by rw [getD_set_ne false (by decide)]; exact h11, hC, hg, AllP.next (i := 4) hall (by decide) (World.grownBy.refl _ _) (show CnP b w.heap.size 4 _ W from ⟨s, rfl, hs1, hs2⟩)⟩⟩

set_option maxRecDepth 8000 in
set_option maxHeartbeats 4000000 in
theorem sp6 {w0 : World} {a : Option Addr} {len cap b : Nat} {w W : World} {listed : Array Bool} {σ0 σ : Nat -> Value} {Q : Exit -> Act -> World -> Prop} (hlen : len <= 4096) (hcr : CodeRow w0 a len) (hsz : listed.size = 12) (hsame : SameP σ0 σ) (h11 : listed.getD 11 false = false) (hC : Cur w0 a len cap b W) (hg : w.grownBy W (some b)) (hall : AllP b w.heap.size listed σ W) :
  ∀ ops, Tryz.f26.body.bind (opsL14 8) = some ops -> 6 ∈ Region.ready .any ops listed -> wpOp Tryz.prog ops Q 6 (fun a' w' => InvP w0 a len cap b w σ0 (listed.setIfInBounds 6 true) a' w') (frP b σ) W := by
 refine at_ops14 rfl (fun hi => ?_)
 have e0 : σ 53 = .pointer (some ⟨b, 0, none⟩) := hall 5 (by decide) (dep14 (g := .data) hi rfl (by simp) (by rfl))
 refine wpOp_step rfl (fun K' hK => ?_)
 unfold frP
 rw [e0]
 go_simp
 refine (cText ⟨#[97, 98, 32, 60, 38]⟩ 5 w0 a len cap b W (by decide) (by decide) (by decide) (by decide) hlen hcr hC).mono ?_
 rintro e W2 ⟨t, rfl, ht, hC2, hG2⟩
 refine hK _ _ ⟨by rw [Array.size_setIfInBounds]; exact hsz, upO σ 54 (.string t), by simp [frP, upO, e0], hsame.up (by decide), .inl ⟨by rw [getD_set_ne false (by decide)]; exact h11, hC2, gtrans hg hG2, AllP.next (i := 6) hall (by decide) (hG2) (show CnP b w.heap.size 6 _ W2 from ⟨t, rfl, by omega⟩)⟩⟩

set_option maxRecDepth 8000 in
set_option maxHeartbeats 4000000 in
theorem sp7 {w0 : World} {a : Option Addr} {len cap b : Nat} {w W : World} {listed : Array Bool} {σ0 σ : Nat -> Value} {Q : Exit -> Act -> World -> Prop} (hlen : len <= 4096) (hcr : CodeRow w0 a len) (hsz : listed.size = 12) (hsame : SameP σ0 σ) (h11 : listed.getD 11 false = false) (hC : Cur w0 a len cap b W) (hg : w.grownBy W (some b)) (hall : AllP b w.heap.size listed σ W) :
  ∀ ops, Tryz.f26.body.bind (opsL14 8) = some ops -> 7 ∈ Region.ready .any ops listed -> wpOp Tryz.prog ops Q 7 (fun a' w' => InvP w0 a len cap b w σ0 (listed.setIfInBounds 7 true) a' w') (frP b σ) W := by
 refine at_ops14 rfl (fun hi => ?_)
 have e1 : TyO (σ 54) := hall 6 (by decide) (dep14 (g := .data) hi rfl (by simp) (by rfl))
 obtain ⟨t, e1, ht⟩ := e1
 have hcat : ¬ 9223372036854775807 < 1 + t.size := by omega
 refine wpOp_step rfl (fun K' hK => ?_)
 unfold frP
 rw [e1]
 go_simp
 refine hK _ _ ⟨by rw [Array.size_setIfInBounds]; exact hsz, upO σ 55 (.string (⟨#[118]⟩ ++ t)), by simp [frP, upO, e1], hsame.up (by decide), .inl ⟨by rw [getD_set_ne false (by decide)]; exact h11, hC, hg, AllP.next (i := 7) hall (by decide) (World.grownBy.refl _ _) (show CnP b w.heap.size 7 _ W from ⟨_, rfl, by rw [ByteArray.size_append]; show 1 + t.size <= 20; omega⟩)⟩⟩

set_option maxRecDepth 8000 in
set_option maxHeartbeats 4000000 in
theorem sp8 {w0 : World} {a : Option Addr} {len cap b : Nat} {w W : World} {listed : Array Bool} {σ0 σ : Nat -> Value} {Q : Exit -> Act -> World -> Prop} (hlen : len <= 4096) (hcr : CodeRow w0 a len) (hsz : listed.size = 12) (hsame : SameP σ0 σ) (h11 : listed.getD 11 false = false) (hC : Cur w0 a len cap b W) (hg : w.grownBy W (some b)) (hall : AllP b w.heap.size listed σ W) :
  ∀ ops, Tryz.f26.body.bind (opsL14 8) = some ops -> 8 ∈ Region.ready .any ops listed -> wpOp Tryz.prog ops Q 8 (fun a' w' => InvP w0 a len cap b w σ0 (listed.setIfInBounds 8 true) a' w') (frP b σ) W := by
 refine at_ops14 rfl (fun hi => ?_)
 have e1 : TzO (σ 55) := hall 7 (by decide) (dep14 (g := .data) hi rfl (by simp) (by rfl))
 obtain ⟨t, e1, ht⟩ := e1
 have hcat : ¬ 9223372036854775807 < t.size + 1 := by omega
 refine wpOp_step rfl (fun K' hK => ?_)
 unfold frP
 rw [e1]
 go_simp
 refine hK _ _ ⟨by rw [Array.size_setIfInBounds]; exact hsz, upO σ 56 (.string (t ++ ⟨#[119]⟩)), by simp [frP, upO, e1], hsame.up (by decide), .inl ⟨by rw [getD_set_ne false (by decide)]; exact h11, hC, hg, AllP.next (i := 8) hall (by decide) (World.grownBy.refl _ _) (show CnP b w.heap.size 8 _ W from ⟨_, rfl, by rw [ByteArray.size_append]; show t.size + 1 <= 30; omega⟩)⟩⟩

set_option maxRecDepth 8000 in
set_option maxHeartbeats 4000000 in
theorem sp9 {w0 : World} {a : Option Addr} {len cap b : Nat} {w W : World} {listed : Array Bool} {σ0 σ : Nat -> Value} {Q : Exit -> Act -> World -> Prop} (hlen : len <= 4096) (hcr : CodeRow w0 a len) (hsz : listed.size = 12) (hsame : SameP σ0 σ) (h11 : listed.getD 11 false = false) (hC : Cur w0 a len cap b W) (hg : w.grownBy W (some b)) (hall : AllP b w.heap.size listed σ W) :
  ∀ ops, Tryz.f26.body.bind (opsL14 8) = some ops -> 9 ∈ Region.ready .any ops listed -> wpOp Tryz.prog ops Q 9 (fun a' w' => InvP w0 a len cap b w σ0 (listed.setIfInBounds 9 true) a' w') (frP b σ) W := by
 refine at_ops14 rfl (fun hi => ?_)
 have e1 : TxO (σ 52) := hall 4 (by decide) (dep14 (g := .data) hi rfl (by simp) (by rfl))
 have e2 : TwO (σ 56) := hall 8 (by decide) (dep14 (g := .data) hi rfl (by simp) (by rfl))
 obtain ⟨s, e1, _, hs⟩ := e1
 obtain ⟨t, e2, ht⟩ := e2
 refine wpOp_step rfl (fun K' hK => ?_)
 unfold frP
 rw [e1, e2]
 go_simp
 refine hK _ _ ⟨by rw [Array.size_setIfInBounds]; exact hsz, upO σ 57 (.agg #[.string s, .string t]), by simp [frP, upO, e1, e2], hsame.up (by decide), .inl ⟨by rw [getD_set_ne false (by decide)]; exact h11, hC, hg, AllP.next (i := 9) hall (by decide) (World.grownBy.refl _ _) (show CnP b w.heap.size 9 _ W from ⟨s, t, rfl, hs, ht⟩)⟩⟩

set_option maxRecDepth 8000 in
set_option maxHeartbeats 4000000 in
theorem sp10 {w0 : World} {a : Option Addr} {len cap b : Nat} {w W : World} {listed : Array Bool} {σ0 σ : Nat -> Value} {Q : Exit -> Act -> World -> Prop} (hlen : len <= 4096) (hcr : CodeRow w0 a len) (hsz : listed.size = 12) (hsame : SameP σ0 σ) (h11 : listed.getD 11 false = false) (hC : Cur w0 a len cap b W) (hg : w.grownBy W (some b)) (hall : AllP b w.heap.size listed σ W) :
  ∀ ops, Tryz.f26.body.bind (opsL14 8) = some ops -> 10 ∈ Region.ready .any ops listed -> wpOp Tryz.prog ops Q 10 (fun a' w' => InvP w0 a len cap b w σ0 (listed.setIfInBounds 10 true) a' w') (frP b σ) W := by
 refine at_ops14 rfl (fun hi => ?_)
 refine wpOp_step rfl (fun K' hK => ?_)
 unfold frP
 go_simp
 refine hK _ _ ⟨by rw [Array.size_setIfInBounds]; exact hsz, upO σ 5 (.pointer (some ⟨W.heap.size, 0, none⟩)), by simp [frP, upO], hsame.up (by decide), .inl ⟨by rw [getD_set_ne false (by decide)]; exact h11, hC.alloc _, gtrans hg (World.grownBy_alloc W _ _), AllP.next (i := 10) hall (by decide) (World.grownBy_alloc W zaO _) (show CnP b w.heap.size 10 _ (W.alloc zaO) from ⟨W.heap.size, rfl, by have := hC.lt; omega, hg.size, heap_alloc_new W _⟩)⟩⟩

set_option maxRecDepth 8000 in
set_option maxHeartbeats 4000000 in
theorem sp11 {w0 : World} {a : Option Addr} {len cap b : Nat} {w W : World} {listed : Array Bool} {σ0 σ : Nat -> Value} {Q : Exit -> Act -> World -> Prop} (hw0 : w0.heap.size <= w.heap.size) (hsz : listed.size = 12) (hsame : SameP σ0 σ) (hC : Cur w0 a len cap b W) (hg : w.grownBy W (some b)) (hall : AllP b w.heap.size listed σ W) :
  ∀ ops, Tryz.f26.body.bind (opsL14 8) = some ops -> 11 ∈ Region.ready .any ops listed -> wpOp Tryz.prog ops Q 11 (fun a' w' => InvP w0 a len cap b w σ0 (listed.setIfInBounds 11 true) a' w') (frP b σ) W := by
 refine at_ops14 rfl (fun hi => ?_)
 have e1 : ∃ g, σ 5 = .pointer (some ⟨g, 0, none⟩) /\ (¬ g = b) /\ w.heap.size <= g /\ W.heap[g]? = some zaO := hall 10 (by decide) (dep14 (g := .data) hi rfl (by simp) (by rfl))
 have e2 : ∃ s t : ByteArray, σ 57 = .agg #[.string s, .string t] /\ s.size <= 30 /\ t.size <= 30 := hall 9 (by decide) (dep14 (g := .data) hi rfl (by simp) (by rfl))
 have hl : ∀ j, j < 11 -> listed.getD j false = true := fun j hj => by
  match j, hj with
  | 0, _ => exact dep14 (g := .phase) hi rfl (by simp) (by rfl)
  | 1, _ => exact dep14 (g := .phase) hi rfl (by simp) (by rfl)
  | 2, _ => exact dep14 (g := .phase) hi rfl (by simp) (by rfl)
  | 3, _ => exact dep14 (g := .phase) hi rfl (by simp) (by rfl)
  | 4, _ => exact dep14 (g := .phase) hi rfl (by simp) (by rfl)
  | 5, _ => exact dep14 (g := .phase) hi rfl (by simp) (by rfl)
  | 6, _ => exact dep14 (g := .phase) hi rfl (by simp) (by rfl)
  | 7, _ => exact dep14 (g := .phase) hi rfl (by simp) (by rfl)
  | 8, _ => exact dep14 (g := .phase) hi rfl (by simp) (by rfl)
  | 9, _ => exact dep14 (g := .phase) hi rfl (by simp) (by rfl)
  | 10, _ => exact dep14 (g := .phase) hi rfl (by simp) (by rfl)
  | n + 11, h => exact absurd h (by omega)
 obtain ⟨g, e1, hne, hbg, hh⟩ := e1
 obtain ⟨s, t, e2, p1, p2⟩ := e2
 unfold zaO at hh
 obtain ⟨⟨y0, y1⟩, yf0, yf1⟩ := q_box2 hh
 have k0 := heap_setCell_same W g 0 _ _ (.string s) hh
 have K1 := hid (heap_setCell_same _ g 1 _ _ (.string t) k0)
 clear k0
 refine wpOp_step rfl (fun K' hK => ?_)
 unfold frP
 rw [e1, e2]
 go_simp
 refine hK _ _ ⟨by rw [Array.size_setIfInBounds]; exact hsz, σ, by simp [frP, e1, e2], hsame, .inr ⟨fun j hj => ?_, g, s, t, e1, hne, hbg, K1.out, p1, p2, ?_, ?_⟩⟩
 ·by_cases h : j = 11
  ·subst h
   simp [Array.getD, hsz]
  ·rw [getD_set_ne true (fun x => h x.symm)]
   have := hl j (by omega)
   have hlt : j < listed.size := by omega
   simp [Array.getD, hlt] at this ⊢
   exact this
 ·iterate 2 refine cur_set14 ?_ hne (by omega)
  exact hC
 ·iterate 2 refine grown_set ?_ hbg
  exact hg

theorem some_ready12 {ops : Array Oper} {listed : Array Bool} (hsz : listed.size = 12) (hops : ∀ i, i < 12 -> ∃ o, ops[i]? = some o /\ ∀ e ∈ o.after, e.on < i) : ∀ i, i < 12 -> listed.getD i false = false -> Region.ready .any ops listed = [] -> False := by
 intro i
 induction i using Nat.strongRecOn with
 | _ i ih =>
  intro hi hl hr
  obtain ⟨o, ho, hlt⟩ := hops i hi
  by_cases hall : ∀ e ∈ o.after, listed.getD e.on false = true
  ·have hm : i ∈ Region.ready .any ops listed := mem_ready.2 ⟨by
    have hlt : i < listed.size := by omega
    simp [Array.getD, hlt] at hl ⊢
    exact hl, o, ho, fun e he _ => hall e he⟩
   rw [hr] at hm
   cases hm
  ·obtain ⟨e, he⟩ := Classical.not_forall.1 hall
   obtain ⟨he1, he2⟩ := Classical.not_imp.1 he
   have := hlt e he1
   exact ih e.on this (by omega) (by simpa using he2) hr

def okP (ops : Array Oper) : Bool := (List.range 12).all fun i => match ops[i]? with
 | some o => o.after.toList.all fun e => decide (e.on < i)
 | none => false

theorem okP_of {ops : Array Oper} (h : okP ops = true) : ∀ i, i < 12 -> ∃ o, ops[i]? = some o /\ ∀ e ∈ o.after, e.on < i := by
 intro i hi
 have h1 := List.all_eq_true.1 h i (List.mem_range.2 hi)
 cases ho : ops[i]? with
 | none => rw [ho] at h1; cases h1
 | some o =>
  rw [ho] at h1
  exact ⟨o, rfl, fun e he => of_decide_eq_true (List.all_eq_true.1 h1 e (by simpa using he))⟩

set_option maxRecDepth 8000 in
set_option maxHeartbeats 4000000 in
theorem reg8 {w0 : World} {a : Option Addr} {len cap b : Nat} {w : World} {Q : Exit -> Act -> World -> Prop} (σ0 : Nat -> Value) (hlen : len <= 4096) (hcr : CodeRow w0 a len) (hw0 : w0.heap.size <= w.heap.size) (hC : Cur w0 a len cap b w) (hQ : ∀ σ W, SameP σ0 σ -> FinP w0 a len cap b w σ W -> Q .normal (frP b σ) W) :
  ∀ ops, Tryz.f26.body.bind (opsL14 8) = some ops -> (Code.region 8 ops true).wp Tryz.prog Q (frP b σ0) w := by
 refine at_ops14 rfl ?_
 refine region_inv (by kernel_rfl) (InvP w0 a len cap b w σ0) (fun listed A W i hI hi => ?_) (fun listed A W hI hr => ?_) ?_
 ·obtain ⟨hsz, σ, rfl, hsame, h⟩ := hI
  have hi12 : i < 12 := by
   obtain ⟨_, o, ho, _⟩ := mem_ready.1 hi
   exact (Array.getElem?_eq_some_iff.1 ho).1
  rcases h with ⟨h11, hC, hg, hall⟩ | ⟨hl, _⟩
  ·match i, hi12 with
   | 0, _ => exact sp0 hlen hcr hsz hsame h11 hC hg hall _ rfl hi
   | 1, _ => exact sp1 hlen hcr hsz hsame h11 hC hg hall _ rfl hi
   | 2, _ => exact sp2 hlen hcr hsz hsame h11 hC hg hall _ rfl hi
   | 3, _ => exact sp3 hlen hcr hsz hsame h11 hC hg hall _ rfl hi
   | 4, _ => exact sp4 hlen hcr hsz hsame h11 hC hg hall _ rfl hi
   | 5, _ => exact sp5 hlen hcr hsz hsame h11 hC hg hall _ rfl hi
   | 6, _ => exact sp6 hlen hcr hsz hsame h11 hC hg hall _ rfl hi
   | 7, _ => exact sp7 hlen hcr hsz hsame h11 hC hg hall _ rfl hi
   | 8, _ => exact sp8 hlen hcr hsz hsame h11 hC hg hall _ rfl hi
   | 9, _ => exact sp9 hlen hcr hsz hsame h11 hC hg hall _ rfl hi
   | 10, _ => exact sp10 hlen hcr hsz hsame h11 hC hg hall _ rfl hi
   | 11, _ => exact sp11 hw0 hsz hsame hC hg hall _ rfl hi
   | n + 12, h => exact absurd h (by omega)
  ·have h1 := (mem_ready.1 hi).1
   rw [hl i hi12] at h1
   cases h1
 ·obtain ⟨hsz, σ, rfl, hsame, h⟩ := hI
  rcases h with ⟨h11, _⟩ | ⟨_, hF⟩
  ·exact (some_ready12 hsz (okP_of (by kernel_rfl)) 11 (by decide) h11 hr).elim
  ·exact hQ σ W hsame hF
 ·refine ⟨by simp, σ0, rfl, fun _ _ _ => rfl, .inl ⟨by simp [Array.getD], hC.drewN 1, g_drewN (World.grownBy.refl _ _) 1, fun j hj h => ?_⟩⟩
  have : (Array.replicate 12 false).getD j false = true := h
  simp [Array.getD] at this

end Go.Proofs.YtlpbbkaelbafdaaGreatDoor
