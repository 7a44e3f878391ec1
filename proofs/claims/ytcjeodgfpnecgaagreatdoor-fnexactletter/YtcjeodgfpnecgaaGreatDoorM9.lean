/- Contracts of EndOf, KidsOf and TextIn of the specification. Contracts of the specification's l9Meaning, l9Element, Meaning, l9Known, Known. An element of a tree: contract of the specification's l9Element. -/
import Derived.Test.YtcjeodgfpnecgaaGreatDoorM8
import Derived.OwnWalk
namespace Go.Proofs.YtcjeodgfpnecgaaGreatDoor
open Go.RowKit
set_option linter.unusedVariables false
set_option linter.unusedSimpArgs false

theorem takeWhile_len {α : Type} (p : α → Bool) : ∀ (l : List α) (m : Nat), m ≤ l.length → (∀ k (h : k < l.length), k < m → p l[k] = true) → (∀ h : m < l.length, p l[m] = false) → (l.takeWhile p).length = m
  | [], m, hm, _, _ => by simp at hm; subst hm; rfl
  | x :: l, 0, _, _, h => by
    have := h (by simp)
    simp only [List.getElem_cons_zero] at this
    rw [List.takeWhile_cons, this]
    rfl
  | x :: l, m + 1, hm, h1, h2 => by
    have h0 := h1 0 (by simp) (by omega)
    simp only [List.getElem_cons_zero] at h0
    rw [List.takeWhile_cons, h0]
    simp only [if_true, List.length_cons]
    rw [takeWhile_len p l m (by simpa using hm) (fun k h hk => by have := h1 (k + 1) (by simpa using h) (by omega); simpa using this) (fun h => by have := h2 (by simpa using h); simpa using this)]

/-- Behind all that the node there has. -/
def endN (ts : List Tk) (k : Nat) : Nat := k + 1 + ((ts.drop (k + 1)).takeWhile fun t => decide ((k : Int) ≤ t.kind)).length

theorem endN_is {ts : List Tk} {k e : Nat} (hk : k < e) (he : e ≤ ts.length) (h : ∀ j, k < j → j < e → (k : Int) ≤ parI ts j) (hx : e = ts.length ∨ parI ts e < (k : Int)) : endN ts k = e := by
  unfold endN
  rw [takeWhile_len _ _ (e - (k + 1)) (by rw [List.length_drop]; omega) (fun j hj hlt => ?_) (fun hj => ?_)]
  · omega
  · rw [List.length_drop] at hj
    rw [List.getElem_drop]
    have := h (k + 1 + j) (by omega) (by omega)
    rw [parI_at (by omega)] at this
    exact decide_eq_true this
  · rw [List.length_drop] at hj
    rw [List.getElem_drop]
    have e2 : k + 1 + (e - (k + 1)) = e := by omega
    simp only [e2]
    rcases hx with hx | hx
    · omega
    · rw [parI_at (by omega)] at hx
      exact decide_eq_false (by omega)

theorem endN_le {ts : List Tk} {k : Nat} (h : k < ts.length) : k < endN ts k ∧ endN ts k ≤ ts.length := by
  unfold endN
  have := (List.takeWhile_sublist (fun t : Tk => decide ((k : Int) ≤ t.kind)) (l := ts.drop (k + 1))).length_le
  rw [List.length_drop] at this
  omega

/-- There is such a node, and it is a tree. -/
noncomputable def hasB (ts : List Tk) (x : Int) : Bool := treeB ts && decide (0 ≤ x ∧ x < ts.length)

theorem hasB_t {ts : List Tk} {x : Int} (h : hasB ts x = true) : TreeP ts ∧ ∃ k : Nat, x = k ∧ k < ts.length := by
  unfold hasB at h
  simp only [Bool.and_eq_true, decide_eq_true_eq] at h
  refine ⟨?_, x.toNat, by omega, by omega⟩
  by_cases q : TreeP ts
  · exact q
  · rw [treeB_f q] at h
    cases h.1

theorem hasB_eq {ts : List Tk} {x : Int} {n : Nat} (h : ts.length = n) : hasB ts x = (treeB ts && (decide (0 ≤ x) && decide (x < n))) := by
  unfold hasB
  rw [h, Bool.decide_and]

noncomputable def endI (ts : List Tk) (x : Int) : Int := if hasB ts x = true then (endN ts x.toNat : Int) else -1

end Go.Proofs.YtcjeodgfpnecgaaGreatDoor

namespace Go.Proofs.YtcjeodgfpnecgaaGreatDoor
open Go.RowKit
set_option linter.unusedVariables false
set_option linter.unusedSimpArgs false

/-- Where one of the chain lies, and who is next. -/
theorem chain_at {ts : List Tk} (hT : TreeP ts) {k : Nat} (hk : k < ts.length) : (∀ m (h : m < (chainF ts (k + 1)).length), (chainF ts (k + 1))[m] < ts.length ∧ parI ts (chainF ts (k + 1))[m] = kAt (chainF ts (k + 1)) (m + 1) ∧ kAt (chainF ts (k + 1)) (m + 1) < ((chainF ts (k + 1))[m] : Int)) ∧ kAt (chainF ts (k + 1)) 0 = (k : Int) := by
  have hL := linked_all k (fun j hj => (hT.2.2.2.2 j (by omega)).2.1)
  refine ⟨fun m h => ?_, rfl⟩
  have l1 := (linked_from hL.1 m h).1 hT.2.2.1
  refine ⟨by have := hL.2 _ (List.getElem_mem h); omega, ?_, ?_⟩
  · rw [l1]
    by_cases h' : m + 1 < (chainF ts (k + 1)).length
    · rw [dif_pos h', kAt_lt h']
    · rw [dif_neg h']
      have : m + 1 = (chainF ts (k + 1)).length := by omega
      rw [this, kAt_end]
  · by_cases h' : m + 1 < (chainF ts (k + 1)).length
    · rw [kAt_lt h']
      have := linked_lt hL.1 m h'
      omega
    · have : m + 1 = (chainF ts (k + 1)).length := by omega
      rw [this, kAt_end]
      omega

/-- One of the chain: what is known of it. -/
theorem chain_step {ts : List Tk} {c : List Nat} (h : ∀ m (h : m < c.length), c[m] < ts.length ∧ parI ts c[m] = kAt c (m + 1) ∧ kAt c (m + 1) < (c[m] : Int)) {m : Nat} (hm : m < c.length) :
    ∃ (x : Nat) (t : Tk), x < ts.length ∧ kAt c m = (x : Int) ∧ t.kind = kAt c (m + 1) ∧ kAt c (m + 1) < (x : Int) ∧ t ∈ ts ∧ upAts ts (c.take (m + 1)) = upAts ts (c.take m) ++ t.attrs ∧ (∀ y ∈ t.attrs, y ∈ upAts ts c) ∧
      ∀ wx a, TkRow wx a ts → ∃ b o aa cap, a = some ⟨b, o, none⟩ ∧ b < wx.heap.size ∧ wx.cell? ⟨b, o + x * 4, none⟩ = some (.int .i64 t.kind) ∧ wx.cell? ⟨b, o + x * 4 + 2, none⟩ = some (.slice aa t.attrs.length cap) ∧ AtRow wx aa t.attrs := by
  obtain ⟨h1, h2, h3⟩ := h m hm
  refine ⟨c[m], ts[c[m]], h1, kAt_lt hm, by rw [← parI_at h1, h2], h3, List.getElem_mem h1, upAts_at hm h1, fun y hy => upAts_mem hm h1 hy, fun wx a hr => ?_⟩
  obtain ⟨b, o, aa, ca, e, hb, q0, q1, q2, q3, q4⟩ := hr c[m] h1
  exact ⟨b, o, aa, ca, e, hb, q0, q2, q4⟩

theorem kAt_ge (c : List Nat) (m : Nat) : -1 ≤ kAt c m := by unfold kAt; split <;> omega

end Go.Proofs.YtcjeodgfpnecgaaGreatDoor

namespace Go.Proofs.YtcjeodgfpnecgaaGreatDoor
open Go.RowKit
set_option linter.unusedVariables false
set_option linter.unusedSimpArgs false

/-- The name of the one at x. -/
def nameI (ts : List Tk) (k : Nat) : ByteArray := match ts[k]? with | some t => t.name | none => ⟨#[]⟩

theorem nameI_at {ts : List Tk} {k : Nat} (h : k < ts.length) : nameI ts k = ts[k].name := by unfold nameI; rw [List.getElem?_eq_getElem h]

noncomputable def elemB (ts : List Tk) (x : Int) : Bool := hasB ts x && !decide ((nameI ts x.toNat).size = 0)

theorem elemB_t {ts : List Tk} {x : Int} (h : elemB ts x = true) : TreeP ts ∧ ∃ k : Nat, x = k ∧ k < ts.length := by
  unfold elemB at h
  rw [Bool.and_eq_true] at h
  exact hasB_t h.1

theorem name_row {w : World} {a : Option Addr} {ts : List Tk} (h : TkRow w a ts) {k : Nat} (hk : k < ts.length) : ∃ b o, a = some ⟨b, o, none⟩ ∧ w.cell? ⟨b, o + k * 4 + 1, none⟩ = some (.string (nameI ts k)) := by
  obtain ⟨b, o, e, _, h1⟩ := h.kindAt k hk
  exact ⟨b, o, e, by rw [nameI_at hk]; exact h1⟩

theorem name_sz {ts : List Tk} (hz : TksSz 1048576 ts) {k : Nat} (hk : k < ts.length) : (nameI ts k).size ≤ 1048576 := by
  rw [nameI_at hk]
  exact (hz _ (List.getElem_mem hk)).1

end Go.Proofs.YtcjeodgfpnecgaaGreatDoor
