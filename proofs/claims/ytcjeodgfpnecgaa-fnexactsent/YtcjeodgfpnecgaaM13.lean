/- Contracts of EndOf, KidsOf and TextIn of the specification. Contracts of l8Kids, KidsOf, l8Text and TextIn of the specification. -/
import Derived.Test.YtcjeodgfpnecgaaM12
import Derived.OwnWalk
namespace Go.Proofs.Ytcjeodgfpnecgaa
open Go.RowKit
set_option linter.unusedVariables false
set_option linter.unusedSimpArgs false

theorem takeWhile_len {α : Type} (p : α → Bool) : ∀ (l : List α) (m : Nat), m ≤ l.length → (∀ k (h : k < l.length), k < m → p l[k] = true) → (∀ h : m < l.length, p l[m] = false) → (l.takeWhile p).length = m
  | [], m, hm, _, _ => by simp at hm; subst hm; rfl
  | x :: l, 0, _, _, h => by
    have := h (by simp)
    simp only [List.getElem_cons_zero] at this
    rw [List.takeWhile_cons, this]
    rfl
  | x :: l, m + 1, hm, h1, h2 => by
    have h0 := h1 0 (by simp) (by omega)
    simp only [List.getElem_cons_zero] at h0
    rw [List.takeWhile_cons, h0]
    simp only [if_true, List.length_cons]
    rw [takeWhile_len p l m (by simpa using hm) (fun k h hk => by have := h1 (k + 1) (by simpa using h) (by omega); simpa using this) (fun h => by have := h2 (by simpa using h); simpa using this)]

/-- Behind all that the node there has. -/
def endN (ts : List Tk) (k : Nat) : Nat := k + 1 + ((ts.drop (k + 1)).takeWhile fun t => decide ((k : Int) ≤ t.kind)).length

theorem endN_is {ts : List Tk} {k e : Nat} (hk : k < e) (he : e ≤ ts.length) (h : ∀ j, k < j → j < e → (k : Int) ≤ parI ts j) (hx : e = ts.length ∨ parI ts e < (k : Int)) : endN ts k = e := by
  unfold endN
  rw [takeWhile_len _ _ (e - (k + 1)) (by rw [List.length_drop]; omega) (fun j hj hlt => ?_) (fun hj => ?_)]
  · omega
  · rw [List.length_drop] at hj
    rw [List.getElem_drop]
    have := h (k + 1 + j) (by omega) (by omega)
    rw [parI_at (by omega)] at this
    exact decide_eq_true this
  · rw [List.length_drop] at hj
    rw [List.getElem_drop]
    have e2 : k + 1 + (e - (k + 1)) = e := by omega
    simp only [e2]
    rcases hx with hx | hx
    · omega
    · rw [parI_at (by omega)] at hx
      exact decide_eq_false (by omega)

theorem endN_le {ts : List Tk} {k : Nat} (h : k < ts.length) : k < endN ts k ∧ endN ts k ≤ ts.length := by
  unfold endN
  have := (List.takeWhile_sublist (fun t : Tk => decide ((k : Int) ≤ t.kind)) (l := ts.drop (k + 1))).length_le
  rw [List.length_drop] at this
  omega

set_option maxHeartbeats 2000000 in
theorem cEndS (a : Option Addr) (cap : Nat) (ts : List Tk) (k : Nat) (w : World) (hR : TkRow w a ts) (hk : k < ts.length) (hn : ts.length ≤ 1048576) :
    Calls Try.prog 56 #[.slice a ts.length cap, .int .i64 (k : Int)] w fun e w' => e = .returned (.int .i64 (endN ts k : Nat)) ∧ w' = w := by
  have HR := hid hR
  obtain ⟨V, hV⟩ : ∃ V, endN ts k = V := ⟨_, rfl⟩
  have HV := hid hV
  rw [hV]
  clear hR hV
  obtain ⟨n, hnn⟩ : ∃ n, ts.length = n := ⟨_, rfl⟩
  have HN := hid hnn
  rw [hnn] at hn hk ⊢
  clear hnn
  go_enter Try.func56, Try.ntmps56
  go_wp2
  go_loop [5] (fun v => ∃ e : Nat, v = .int .i64 (e : Int) ∧ k < e ∧ e ≤ n ∧ Hid (∀ j, k < j → j < e → (k : Int) ≤ parI ts j)) (fun v => n - (intOf v).toNat)
  case atStart => exact ⟨k + 1, by go_num, by omega, by omega, fun j h1 h2 => by omega⟩
  case round =>
    obtain ⟨e, rfl, h1, h2, HA⟩ := hrel
    by_cases hlt : e < n
    · have hes : e < ts.length := by rw [HN.out]; exact hlt
      have hin : (e : Int) < (n : Int) := by omega
      obtain ⟨b, o, rfl, c0, _⟩ := HR.out.kindAt e hes
      by_cases hp : (k : Int) ≤ parI ts e
      · have HA2 := hid (show ∀ j, k < j → j < e + 1 → (k : Int) ≤ parI ts j from fun j g1 g2 => by
          rcases Nat.lt_or_eq_of_le (Nat.le_of_lt_succ g2) with h' | rfl
          · exact HA.out j g1 h'
          · exact hp)
        generalize parI ts e = P at *
        go_wp2
        go_round
        case rel => exact ⟨e + 1, by go_num, by omega, by omega, HA2.out⟩
        case measure => simp [intOf]; omega
      · have HW := hid (show V = e by rw [← HV.out]; exact endN_is h1 (by rw [HN.out]; exact h2) HA.out (.inr (by omega)))
        have hp' : parI ts e < (k : Int) := by omega
        generalize parI ts e = P at *
        go_wp2
        go_ret
        exact ⟨by rw [HW.out]; rfl, rfl⟩
    · have hee : e = n := by omega
      have HW := hid (show V = e by rw [← HV.out]; exact endN_is h1 (by rw [HN.out]; exact h2) HA.out (.inl (by rw [HN.out]; exact hee)))
      subst hee
      go_wp2
      go_ret
      exact ⟨by rw [HW.out]; rfl, rfl⟩

/-- There is such a node, and it is a tree. -/
noncomputable def hasB (ts : List Tk) (x : Int) : Bool := treeB ts && decide (0 ≤ x ∧ x < ts.length)

theorem hasB_t {ts : List Tk} {x : Int} (h : hasB ts x = true) : TreeP ts ∧ ∃ k : Nat, x = k ∧ k < ts.length := by
  unfold hasB at h
  simp only [Bool.and_eq_true, decide_eq_true_eq] at h
  refine ⟨?_, x.toNat, by omega, by omega⟩
  by_cases q : TreeP ts
  · exact q
  · rw [treeB_f q] at h
    cases h.1

theorem hasB_eq {ts : List Tk} {x : Int} {n : Nat} (h : ts.length = n) : hasB ts x = (treeB ts && (decide (0 ≤ x) && decide (x < n))) := by
  unfold hasB
  rw [h, Bool.decide_and]

noncomputable def endI (ts : List Tk) (x : Int) : Int := if hasB ts x = true then (endN ts x.toNat : Int) else -1

end Go.Proofs.Ytcjeodgfpnecgaa

namespace Go.Proofs.Ytcjeodgfpnecgaa
open Go.RowKit
set_option linter.unusedVariables false
set_option linter.unusedSimpArgs false

/-- Nodes up to e whose parent it is. -/
def kidsTo (ts : List Tk) (k e : Nat) : List Nat := (List.range e).filter fun i => decide (k < i) && decide (parI ts i = (k : Int))

/-- Nodes whose parent it is. -/
def kidsN (ts : List Tk) (k : Nat) : List Nat := kidsTo ts k ts.length

theorem kidsTo_first (ts : List Tk) (k : Nat) : kidsTo ts k (k + 1) = [] := by
  unfold kidsTo
  rw [List.filter_eq_nil_iff]
  intro i hi
  have := List.mem_range.1 hi
  simp
  omega

theorem kidsTo_next {ts : List Tk} {k e : Nat} (h : k < e) : kidsTo ts k (e + 1) = kidsTo ts k e ++ (if parI ts e = (k : Int) then [e] else []) := by
  unfold kidsTo
  rw [List.range_succ, List.filter_append]
  congr 1
  by_cases q : parI ts e = (k : Int)
  · simp [h, q]
  · simp [q]

theorem kidsTo_len (ts : List Tk) (k e : Nat) : (kidsTo ts k e).length ≤ e := by
  have := List.length_filter_le (fun i => decide (k < i) && decide (parI ts i = (k : Int))) (List.range e)
  rw [List.length_range] at this
  exact this

theorem kidsN_lt {ts : List Tk} {k i : Nat} (h : i ∈ kidsN ts k) : i < ts.length := List.mem_range.1 (List.mem_filter.1 h).1

/-- Numbers as cells. -/
def intC (l : List Nat) : List Value := l.map fun (i : Nat) => .int .i64 (i : Int)

theorem intC_len (l : List Nat) : (intC l).length = l.length := by simp [intC]

theorem intC_app (l m : List Nat) : intC (l ++ m) = intC l ++ intC m := by simp [intC]

theorem info64 : (Try.prog.info? 2).map (fun i => (i.zero, i.size, i.bytes)) = some (some (.int .i64 0), 1, 8) := by kernel_rfl

theorem one_cell64 (w : World) (v : Value) : ∀ j u, [v][j]? = some u → (w.alloc (.cells #[v] 2)).cell? ((⟨w.heap.size, 0, none⟩ : Addr).add j) = some u := by
  intro j u hj
  match j, hj with
  | 0, hj => simp at hj; subst hj; simp [Addr.add]

theorem one_one64 (n : Int) : ∀ u ∈ [Value.int .i64 n], u.oneCell' = true := by
  intro u hu; simp at hu; subst hu; rfl

/-- A cell of a row of numbers of our own. -/
theorem row64 {w : World} {B : Nat} {v : Value} {l : List Nat} (h : w.ownsRow B 2 1 v l.length (intC l)) : (∃ a cap, v = .slice a l.length cap) ∧ ∀ i (hi : i < l.length), ∃ g cap, v = .slice (some ⟨g, 0, none⟩) l.length cap ∧ g < w.heap.size ∧ w.cell? ⟨g, i, none⟩ = some (.int .i64 (l[i] : Int)) := by
  rcases h.2 with ⟨rfl, h0⟩ | ⟨g, cap, cur, rfl, hg, hh, hn, hc, hs, ht⟩
  · have : l = [] := List.eq_nil_of_length_eq_zero h0
    subst this
    exact ⟨⟨none, 0, rfl⟩, fun i hi => absurd hi (Nat.not_lt_zero _)⟩
  · refine ⟨⟨_, _, rfl⟩, fun i hi => ⟨g, cap, rfl, lt_of_heap hh, ?_⟩⟩
    rw [Lib.cell_of_heap hh, ← Array.getElem?_toList]
    have hk : (intC l)[i]? = some (.int .i64 (l[i] : Int)) := by
      unfold intC
      rw [List.getElem?_map, List.getElem?_eq_getElem hi]
      rfl
    rw [← ht, List.getElem?_take] at hk
    split at hk
    · exact hk
    · cases hk

theorem row64_mono {w : World} {B B' n : Nat} {v : Value} {xs : List Value} {e : TypeId} (h : w.ownsRow B' e 1 v n xs) (hB : B ≤ B') : w.ownsRow B e 1 v n xs := by
  refine ⟨h.1, ?_⟩
  rcases h.2 with h' | ⟨g, cap, cur, h1, h2, h3⟩
  · exact .inl h'
  · exact .inr ⟨g, cap, cur, h1, Nat.le_trans hB h2, h3⟩

noncomputable def kidsI (ts : List Tk) (x : Int) : List Nat := if hasB ts x = true then kidsN ts x.toNat else []

def textAt (ts : List Tk) (k : Nat) : ByteArray := match ts[k]? with | some t => t.text | none => ⟨#[]⟩

theorem textAt_at {ts : List Tk} {k : Nat} (h : k < ts.length) : textAt ts k = ts[k].text := by unfold textAt; rw [List.getElem?_eq_getElem h]

/-- The texts of these, one behind the other. -/
def joinT (ts : List Tk) (ks : List Nat) : ByteArray := ks.foldl (fun s k => s ++ textAt ts k) ⟨#[]⟩

theorem joinT_snoc (ts : List Tk) (ks : List Nat) (k : Nat) : joinT ts (ks ++ [k]) = joinT ts ks ++ textAt ts k := by simp [joinT]

theorem tree_text {ts : List Tk} (h : TreeP ts) (k : Nat) : (textAt ts k).size ≤ 60 := by
  by_cases hk : k < ts.length
  · rw [textAt_at hk]
    obtain ⟨⟨_, hb⟩, _⟩ := h.2.2.2.2 k hk
    by_cases e : ts[k].name.size = 0
    · rw [nodeB_tx e] at hb
      simp only [Bool.and_eq_true, textB, decide_eq_true_eq] at hb
      exact hb.2.2.2
    · rw [nodeB_el e] at hb
      simp only [Bool.and_eq_true, decide_eq_true_eq] at hb
      omega
  · unfold textAt
    rw [List.getElem?_eq_none (by omega)]
    exact Nat.zero_le _

theorem joinT_size {ts : List Tk} (h : ∀ k, (textAt ts k).size ≤ 60) (ks : List Nat) : (joinT ts ks).size ≤ 60 * ks.length := by
  have H : ∀ (ks : List Nat) (s : ByteArray), (ks.foldl (fun s k => s ++ textAt ts k) s).size ≤ s.size + 60 * ks.length := by
    intro ks
    induction ks with
    | nil => intro s; simp
    | cons k ks ih =>
      intro s
      have := ih (s ++ textAt ts k)
      have h2 := h k
      rw [ByteArray.size_append] at this
      simp only [List.foldl_cons, List.length_cons]
      omega
  have := H ks ⟨#[]⟩
  rw [show (⟨#[]⟩ : ByteArray).size = 0 from rfl] at this
  unfold joinT
  omega

noncomputable def textI (ts : List Tk) (x : Int) : ByteArray := if hasB ts x = true then joinT ts (kidsN ts x.toNat) else ⟨#[]⟩

end Go.Proofs.Ytcjeodgfpnecgaa
