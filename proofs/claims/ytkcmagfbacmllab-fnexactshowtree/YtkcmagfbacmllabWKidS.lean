/- Contracts of EndOf, KidsOf and TextIn of the specification. -/
import Derived.Test.YtkcmagfbacmllabWTreeS
import Derived.OwnWalk
namespace Go.Proofs.Ytkcmagfbacmllab
open Go.RowKit
set_option linter.unusedVariables false
set_option linter.unusedSimpArgs false

theorem takeWhile_len {α : Type} (p : α → Bool) : ∀ (l : List α) (m : Nat), m ≤ l.length → (∀ k (h : k < l.length), k < m → p l[k] = true) → (∀ h : m < l.length, p l[m] = false) → (l.takeWhile p).length = m
  | [], m, hm, _, _ => by simp at hm; subst hm; rfl
  | x :: l, 0, _, _, h => by
    have := h (by simp)
    simp only [List.getElem_cons_zero] at this
    rw [List.takeWhile_cons, this]
    rfl
  | x :: l, m + 1, hm, h1, h2 => by
    have h0 := h1 0 (by simp) (by omega)
    simp only [List.getElem_cons_zero] at h0
    rw [List.takeWhile_cons, h0]
    simp only [if_true, List.length_cons]
    rw [takeWhile_len p l m (by simpa using hm) (fun k h hk => by have := h1 (k + 1) (by simpa using h) (by omega); simpa using this) (fun h => by have := h2 (by simpa using h); simpa using this)]

/-- Behind all that the node there has. -/
def endN (ts : List Tk) (k : Nat) : Nat := k + 1 + ((ts.drop (k + 1)).takeWhile fun t => decide ((k : Int) ≤ t.kind)).length

theorem endN_is {ts : List Tk} {k e : Nat} (hk : k < e) (he : e ≤ ts.length) (h : ∀ j, k < j → j < e → (k : Int) ≤ parI ts j) (hx : e = ts.length ∨ parI ts e < (k : Int)) : endN ts k = e := by
  unfold endN
  rw [takeWhile_len _ _ (e - (k + 1)) (by rw [List.length_drop]; omega) (fun j hj hlt => ?_) (fun hj => ?_)]
  · omega
  · rw [List.length_drop] at hj
    rw [List.getElem_drop]
    have := h (k + 1 + j) (by omega) (by omega)
    rw [parI_at (by omega)] at this
    exact decide_eq_true this
  · rw [List.length_drop] at hj
    rw [List.getElem_drop]
    have e2 : k + 1 + (e - (k + 1)) = e := by omega
    simp only [e2]
    rcases hx with hx | hx
    · omega
    · rw [parI_at (by omega)] at hx
      exact decide_eq_false (by omega)

theorem endN_le {ts : List Tk} {k : Nat} (h : k < ts.length) : k < endN ts k ∧ endN ts k ≤ ts.length := by
  unfold endN
  have := (List.takeWhile_sublist (fun t : Tk => decide ((k : Int) ≤ t.kind)) (l := ts.drop (k + 1))).length_le
  rw [List.length_drop] at this
  omega

set_option maxHeartbeats 2000000 in
theorem cEndS (a : Option Addr) (cap : Nat) (ts : List Tk) (k : Nat) (w : World) (hR : TkRow w a ts) (hk : k < ts.length) (hn : ts.length ≤ 1048576) :
    Calls Try.prog 32 #[.slice a ts.length cap, .int .i64 (k : Int)] w fun e w' => e = .returned (.int .i64 (endN ts k : Nat)) ∧ w' = w := by
  have HR := hid hR
  obtain ⟨V, hV⟩ : ∃ V, endN ts k = V := ⟨_, rfl⟩
  have HV := hid hV
  rw [hV]
  clear hR hV
  obtain ⟨n, hnn⟩ : ∃ n, ts.length = n := ⟨_, rfl⟩
  have HN := hid hnn
  rw [hnn] at hn hk ⊢
  clear hnn
  go_enter Try.func32, Try.ntmps32
  go_wp2
  go_loop [5] (fun v => ∃ e : Nat, v = .int .i64 (e : Int) ∧ k < e ∧ e ≤ n ∧ Hid (∀ j, k < j → j < e → (k : Int) ≤ parI ts j)) (fun v => n - (intOf v).toNat)
  case atStart => exact ⟨k + 1, by go_num, by omega, by omega, fun j h1 h2 => by omega⟩
  case round =>
    obtain ⟨e, rfl, h1, h2, HA⟩ := hrel
    by_cases hlt : e < n
    · have hes : e < ts.length := by rw [HN.out]; exact hlt
      have hin : (e : Int) < (n : Int) := by omega
      obtain ⟨b, o, rfl, c0, _⟩ := HR.out.kindAt e hes
      by_cases hp : (k : Int) ≤ parI ts e
      · have HA2 := hid (show ∀ j, k < j → j < e + 1 → (k : Int) ≤ parI ts j from fun j g1 g2 => by
          rcases Nat.lt_or_eq_of_le (Nat.le_of_lt_succ g2) with h' | rfl
          · exact HA.out j g1 h'
          · exact hp)
        generalize parI ts e = P at *
        go_wp2
        go_round
        case rel => exact ⟨e + 1, by go_num, by omega, by omega, HA2.out⟩
        case measure => simp [intOf]; omega
      · have HW := hid (show V = e by rw [← HV.out]; exact endN_is h1 (by rw [HN.out]; exact h2) HA.out (.inr (by omega)))
        have hp' : parI ts e < (k : Int) := by omega
        generalize parI ts e = P at *
        go_wp2
        go_ret
        exact ⟨by rw [HW.out]; rfl, rfl⟩
    · have hee : e = n := by omega
      have HW := hid (show V = e by rw [← HV.out]; exact endN_is h1 (by rw [HN.out]; exact h2) HA.out (.inl (by rw [HN.out]; exact hee)))
      subst hee
      go_wp2
      go_ret
      exact ⟨by rw [HW.out]; rfl, rfl⟩

/-- There is such a node, and it is a tree. -/
noncomputable def hasB (ts : List Tk) (x : Int) : Bool := treeB ts && decide (0 ≤ x ∧ x < ts.length)

theorem hasB_t {ts : List Tk} {x : Int} (h : hasB ts x = true) : TreeP ts ∧ ∃ k : Nat, x = k ∧ k < ts.length := by
  unfold hasB at h
  simp only [Bool.and_eq_true, decide_eq_true_eq] at h
  refine ⟨?_, x.toNat, by omega, by omega⟩
  by_cases q : TreeP ts
  · exact q
  · rw [treeB_f q] at h
    cases h.1

theorem hasB_eq {ts : List Tk} {x : Int} {n : Nat} (h : ts.length = n) : hasB ts x = (treeB ts && (decide (0 ≤ x) && decide (x < n))) := by
  unfold hasB
  rw [h, Bool.decide_and]

noncomputable def endI (ts : List Tk) (x : Int) : Int := if hasB ts x = true then (endN ts x.toNat : Int) else -1

set_option maxHeartbeats 2000000 in
theorem cHasS (a : Option Addr) (cap : Nat) (ts : List Tk) (x : Int) (w : World) (hR : TkRow w a ts) (hn : ts.length ≤ 1048576) (hz : TksSz 1048576 ts) :
    Calls Try.prog 31 #[.slice a ts.length cap, .int .i64 x] w fun e w' => e = .returned (.bool (hasB ts x)) ∧ Below w.heap.size w w' := by
  have C := hid (cTreeOkS a cap ts w hR hn hz)
  obtain ⟨n, hnn⟩ : ∃ n, ts.length = n := ⟨_, rfl⟩
  rw [hasB_eq hnn]
  rw [hnn] at C ⊢
  clear hR hz hn hnn
  generalize treeB ts = B at *
  cases B
  · rw [Bool.false_and]
    go_enter Try.func31, Try.ntmps31
    go_wp2_with fail
    refine C.out.mono ?_
    rintro e w1 ⟨rfl, hb1⟩
    have HB1 := hid hb1
    clear hb1
    go_wp2_with fail
    go_ret
    exact ⟨rfl, HB1.out⟩
  · rw [Bool.true_and]
    cases q1 : decide (0 ≤ x)
    · rw [Bool.false_and]
      go_enter Try.func31, Try.ntmps31
      go_wp2_with fail
      refine C.out.mono ?_
      rintro e w1 ⟨rfl, hb1⟩
      have HB1 := hid hb1
      clear hb1
      go_wp2_with fail
      go_ret
      exact ⟨rfl, HB1.out⟩
    · rw [Bool.true_and]
      go_enter Try.func31, Try.ntmps31
      go_wp2_with fail
      refine C.out.mono ?_
      rintro e w1 ⟨rfl, hb1⟩
      have HB1 := hid hb1
      clear hb1
      go_wp2_with fail
      go_ret
      exact ⟨rfl, HB1.out⟩

set_option maxHeartbeats 2000000 in
theorem cEndOfS (a : Option Addr) (cap : Nat) (ts : List Tk) (x : Int) (w : World) (hR : TkRow w a ts) (hn : ts.length ≤ 1048576) (hz : TksSz 1048576 ts) :
    Calls Try.prog 12 #[.slice a ts.length cap, .int .i64 x] w fun e w' => e = .returned (.int .i64 (endI ts x)) ∧ Below w.heap.size w w' := by
  have C := hid (cHasS a cap ts x w hR hn hz)
  have HR := hid hR
  cases q : hasB ts x
  · have e1 : endI ts x = -1 := by unfold endI; rw [q]; rfl
    rw [e1]
    rw [q] at C
    clear hz hR e1
    generalize ts.length = n at *
    go_enter Try.func12, Try.ntmps12
    go_wp2_with fail
    refine C.out.mono ?_
    rintro e w1 ⟨rfl, hb1⟩
    have HB1 := hid hb1
    clear hb1
    go_wp2_with fail
    go_ret
    exact ⟨rfl, HB1.out⟩
  · obtain ⟨_, k, rfl, hk⟩ := hasB_t q
    have e1 : endI ts (k : Int) = (endN ts k : Int) := by unfold endI; rw [q]; rfl
    have CE := hid (fun wx h => cEndS a cap ts k wx h hk hn)
    rw [e1]
    rw [q] at C
    clear hz hR e1 hk
    generalize endN ts k = E at *
    generalize ts.length = n at *
    go_enter Try.func12, Try.ntmps12
    go_wp2_with fail
    refine C.out.mono ?_
    rintro e w1 ⟨rfl, hb1⟩
    have HB1 := hid hb1
    clear hb1
    go_wp2_with fail
    refine (CE.out _ (HR.out.below HB1.out)).mono ?_
    rintro e w2 ⟨rfl, rfl⟩
    go_wp2_with fail
    go_ret
    exact ⟨rfl, HB1.out⟩

end Go.Proofs.Ytkcmagfbacmllab
