/- Contracts of the specification's l1Of, l9Declares, l9Right. Contract of what the specification asks for a node's depth. Contract of TreeOk of the specification. -/
import Derived.Test.YtcjeodgfpnecgaaGreatDoorM7
import Derived.Test.YtcjeodgfpnecgaaGreatDoorM5
import Derived.Deep.CutRange
namespace Go.Proofs.YtcjeodgfpnecgaaGreatDoor
open Go.RowKit
set_option linter.unusedVariables false
set_option linter.unusedSimpArgs false

def inB (signs : ByteArray) (c : UInt8) : Bool := signs.data.toList.any fun d => decide (d = c)

theorem u8_beq (a b : UInt8) : ((a.toNat : Int) == (b.toNat : Int)) = decide (a = b) := by
  by_cases h : a = b
  · subst h; simp
  · rw [decide_eq_false h]
    have : ¬ a.toNat = b.toNat := fun e => h (UInt8.toNat_inj.1 e)
    simp
    omega

set_option maxHeartbeats 2000000 in
theorem c_spec_l1Of (signs : ByteArray) (most : Nat) (s : ByteArray) (w : World) (hs : s.size ≤ 1048576) (hg : signs.size ≤ 256) (hm : most ≤ 1000) :
    Calls Tryz.prog 33 #[.string s, .string signs, .int .i64 (most : Int)] w fun e w' => e = .returned (.bool (ofB signs most s)) ∧ Below w.heap.size w w' := by
  obtain ⟨V, hV⟩ : ∃ V, ofB signs most s = V := ⟨_, rfl⟩
  have HV := hid hV
  rw [hV]
  clear hV
  go_enter Tryz.func33, Tryz.ntmps33
  go_wp2_with fail
  go_loopw [7] (fun k wr => ∃ i : Nat, k = .int .i64 (i : Int) ∧ i ≤ s.size ∧ Hid ((s.data.toList.take i).all (inB signs) = true) ∧ Hid (Below w.heap.size w wr)) (fun k _ => s.size - (intOf k).toNat)
  case atStart => exact ⟨0, rfl, Nat.zero_le _, rfl, Below.refl _ _⟩
  case round =>
    obtain ⟨i, rfl, hi, HA, HB⟩ := hrel
    by_cases hlt : i < s.size
    · have hin : (i : Int) < (s.size : Int) := by omega
      go_wp2_with fail
      go_loopw [8, 9] (fun v k wr => ∃ j : Nat, k = .int .i64 (j : Int) ∧ j ≤ signs.size ∧ v = .bool ((signs.data.toList.take j).any fun d => decide (d = s[i])) ∧ Hid (Below w.heap.size w wr)) (fun _ k _ => signs.size - (intOf k).toNat)
      case atStart => exact ⟨0, rfl, Nat.zero_le _, rfl, HB.out⟩
      case round =>
        clear HB
        obtain ⟨j, rfl, hj, rfl, HB⟩ := hrel
        by_cases hjl : j < signs.size
        · have hjn : (j : Int) < (signs.size : Int) := by omega
          have HE := hid (show (signs.data.toList.take (j + 1)).any (fun d => decide (d = s[i])) = ((signs.data.toList.take j).any (fun d => decide (d = s[i])) || decide (signs[j] = s[i])) by
            rw [take_snoc signs j hjl, List.any_append]
            simp)
          generalize (signs.data.toList.take j).any (fun d => decide (d = s[i])) = P at *
          have hq := u8_beq signs[j] s[i]
          generalize decide (signs[j] = s[i]) = D at *
          cases P
          · go_wp2_with fail
            go_quiet (fail)
            go_wp2_with fail
            go_roundw
            case rel => exact ⟨j + 1, by go_num, by omega, by rw [HE.out]; rfl, below_drewN HB.out _⟩
            case measure => simp [intOf]; omega
          · go_wp2_with fail
            go_quiet (fail)
            go_wp2_with fail
            go_roundw
            case rel => exact ⟨j + 1, by go_num, by omega, by rw [HE.out]; rfl, below_drewN HB.out _⟩
            case measure => simp [intOf]; omega
        · have hje : j = signs.size := by omega
          subst hje
          rw [take_full signs _ (by omega)]
          have HI := hid (show signs.data.toList.any (fun d => decide (d = s[i])) = inB signs s[i] from rfl)
          rw [HI.out]
          cases hP : inB signs s[i]
          · have HF := hid (show V = false by
              rw [← HV.out]
              unfold ofB
              rw [Bool.and_eq_false_imp]
              intro h
              have h2 := List.all_eq_true.1 h s[i] (List.getElem_mem _)
              have h3 : inB signs s[i] = true := h2
              rw [hP] at h3
              cases h3)
            clear hP
            go_wp2_with fail
            go_ret
            exact ⟨by rw [HF.out]; rfl, HB.out⟩
          · have HA2 := hid (show (s.data.toList.take (i + 1)).all (inB signs) = true by rw [take_snoc s i hlt, List.all_append, HA.out]; simp [hP])
            clear hP
            go_wp2_with fail
            go_roundw
            case rel => exact ⟨i + 1, by go_num, by omega, HA2.out, HB.out⟩
            case measure => simp [intOf]; omega
    · have hie : i = s.size := by omega
      subst hie
      have hA := HA.out
      rw [take_full s _ (by omega)] at hA
      have HF := hid (show V = decide (s.size ≤ most) by
        rw [← HV.out]
        unfold ofB
        have h : (s.data.toList.all fun c => signs.data.toList.any fun d => decide (d = c)) = true := hA
        rw [h, Bool.true_and])
      clear hA HA
      go_wp2_with fail
      go_ret
      exact ⟨by rw [HF.out]; rfl, HB.out⟩

theorem ns_beq (s : ByteArray) : (s.toList == [110, 115]) = decide (s = nsS) := by
  rw [← str_beq]
  have e : nsS.toList = [110, 115] := by rw [ByteArray.toList_eq]; rfl
  rw [e]

theorem box_two (w : World) (x y : Value) (T : TypeId) : (w.alloc (.cells #[x, y] T)).cell? ⟨w.heap.size, 0, none⟩ = some x ∧ (w.alloc (.cells #[x, y] T)).cell? ⟨w.heap.size, 1, none⟩ = some y ∧ w.heap.size < (w.alloc (.cells #[x, y] T)).heap.size := by
  refine ⟨?_, ?_, by simp⟩
  · rw [Lib.cell_of_heap (heap_alloc_new w _)]; rfl
  · rw [Lib.cell_of_heap (heap_alloc_new w _)]; rfl

end Go.Proofs.YtcjeodgfpnecgaaGreatDoor

namespace Go.Proofs.YtcjeodgfpnecgaaGreatDoor
open Go.RowKit
set_option linter.unusedVariables false
set_option linter.unusedSimpArgs false

/-- The chain from its m-th member on. -/
theorem linked_from {ts : List Tk} : ∀ {c : List Nat}, Linked ts c → ∀ m (h : m < c.length), (parI ts 0 = -1 → parI ts c[m] = (if h' : m + 1 < c.length then (c[m + 1] : Int) else -1)) ∧ (c[m] = 0 ↔ m + 1 = c.length)
  | [], h, m, hm => absurd hm (by simp)
  | [x], h, m, hm => by
    have h0 : x = 0 := h
    subst h0
    have : m = 0 := by simpa using hm
    subst this
    exact ⟨fun e => by simpa using e, by simp⟩
  | x :: y :: r, h, 0, hm => by
    refine ⟨fun e => ?_, ?_⟩
    · simp [h.1]
    · have := h.2.1
      constructor
      · intro e
        have e : x = 0 := e
        omega
      · intro e
        simp at e
  | x :: y :: r, h, m + 1, hm => by
    have hm' : m < (y :: r).length := by simpa using hm
    obtain ⟨h1, h2⟩ := linked_from h.tail m hm'
    refine ⟨fun e => ?_, ?_⟩
    · have := h1 e
      simp only [List.getElem_cons_succ, List.length_cons] at this ⊢
      rw [this]
      by_cases q : m + 1 < r.length + 1
      · rw [dif_pos q, dif_pos (by omega)]
      · rw [dif_neg q, dif_neg (by omega)]
    · simp only [List.getElem_cons_succ, List.length_cons] at h2 ⊢
      omega

theorem Linked.len {ts : List Tk} : ∀ {c : List Nat} {x : Nat}, Linked ts (x :: c) → (x :: c).length ≤ x + 1
  | [], x, h => by simp
  | y :: r, x, h => by
    have h1 := Linked.len (ts := ts) h.tail
    have := h.2.1
    simp only [List.length_cons] at h1 ⊢
    omega

theorem linked_lt {ts : List Tk} : ∀ {c : List Nat}, Linked ts c → ∀ m (h : m + 1 < c.length), c[m + 1] < c[m]
  | [], h, m, hm => absurd hm (by simp)
  | [x], h, m, hm => absurd hm (by simp)
  | x :: y :: r, h, 0, hm => h.2.1
  | x :: y :: r, h, m + 1, hm => linked_lt h.tail m (by simpa using hm)

/-- The m-th member of a chain; -1 behind its end. -/
def kAt (c : List Nat) (m : Nat) : Int := match c[m]? with | some x => (x : Int) | none => -1

theorem kAt_lt {c : List Nat} {m : Nat} (h : m < c.length) : kAt c m = (c[m] : Int) := by unfold kAt; rw [List.getElem?_eq_getElem h]

theorem kAt_end {c : List Nat} : kAt c c.length = -1 := by unfold kAt; rw [List.getElem?_eq_none (Nat.le_refl _)]

theorem TkRow.kindAt {w : World} {a : Option Addr} {ts : List Tk} (h : TkRow w a ts) (j : Nat) (hj : j < ts.length) : ∃ b o, a = some ⟨b, o, none⟩ ∧ w.cell? ⟨b, o + j * 4, none⟩ = some (.int .i64 (parI ts j)) ∧ w.cell? ⟨b, o + j * 4 + 1, none⟩ = some (.string ts[j].name) := by
  obtain ⟨b, o, aa, cap, ha, hlt, c0, c1, _⟩ := h j hj
  exact ⟨b, o, ha, by rw [parI_at hj]; exact c0, c1⟩

end Go.Proofs.YtcjeodgfpnecgaaGreatDoor

namespace Go.Proofs.YtcjeodgfpnecgaaGreatDoor
open Go.RowKit
set_option linter.unusedVariables false
set_option linter.unusedSimpArgs false

theorem nodeB_el {t : Tk} (h : ¬ t.name.size = 0) : nodeB t = (nameL t.name.data.toList && (attrsB t.attrs && decide (t.text.size = 0))) := by unfold nodeB; exact if_neg h

theorem nodeB_tx {t : Tk} (h : t.name.size = 0) : nodeB t = (decide (t.attrs.length = 0) && textB t.text) := by unfold nodeB; exact if_pos h

end Go.Proofs.YtcjeodgfpnecgaaGreatDoor
