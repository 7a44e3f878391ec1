/- A slice of texts, read; the specification's Clash. -/
import Derived.Test.YtidkbpcceoocaaaDoorHCl
import Derived.Test.YtidkbpcceoocaaaDoorHHash
import Derived.BigQuiet
import Derived.Deep.QuietTactic
namespace Go.Proofs.YtidkbpcceoocaaaDoor
open Go.RowKit
set_option linter.unusedVariables false
set_option linter.unusedSimpArgs false

/-- The texts lie in a row from a on. -/
def StrAt (w : World) (a : Option Addr) (ss : List ByteArray) : Prop :=
  ∀ j (h : j < ss.length), ∃ b o, a = some ⟨b, o, none⟩ ∧ b < w.heap.size ∧ w.cell? ⟨b, o + j, none⟩ = some (.string ss[j])

theorem StrAt.below {w w' : World} {a : Option Addr} {ss : List ByteArray} (h : StrAt w a ss) (hb : Below w.heap.size w w') : StrAt w' a ss := by
  intro j hj
  obtain ⟨b, o, ha, hlt, hc⟩ := h j hj
  exact ⟨b, o, ha, Nat.lt_of_lt_of_le hlt hb.size, (hb.cell (p := ⟨b, o + j, none⟩) hlt).trans hc⟩

theorem str_beq (a b : ByteArray) : (a.toList == b.toList) = decide (a = b) := by
  rw [ByteArray.toList_eq, ByteArray.toList_eq]
  by_cases h : a = b
  · subst h; simp
  · have : ¬ a.data.toList = b.data.toList := fun e => h (ByteArray.ext (Array.toList_inj.1 e))
    rw [decide_eq_false h, beq_eq_false_iff_ne]
    exact this

theorem below_drewN {n : Nat} {w w1 : World} (h : Below n w w1) (k : Nat) : Below n w (w1.drewN k) := ⟨h.os, h.tape, h.output, h.size, h.block⟩

theorem good_next {ss : List ByteArray} {i : Nat} (hi : i < ss.length) (hG : Good ss i) (key : ∀ u ∈ ss.take i, hsB u = hsB ss[i] → u = ss[i]) : Good ss (i + 1) := by
  intro u hu v hv he
  rw [take_next hi] at hu hv
  rcases List.mem_append.1 hu with hu | hu
  · rcases List.mem_append.1 hv with hv | hv
    · exact hG u hu v hv he
    · rw [List.mem_singleton] at hv
      subst hv
      exact key u hu he
  · rw [List.mem_singleton] at hu
    subst hu
    rcases List.mem_append.1 hv with hv | hv
    · exact (key v hv he.symm).symm
    · exact (List.mem_singleton.1 hv).symm

set_option maxHeartbeats 2000000 in
theorem cClashS (a : Option Addr) (cap : Nat) (ss : List ByteArray) (w : World) (hS : StrAt w a ss) (hz : ∀ s ∈ ss, s.size ≤ 1048576) (hn : ss.length ≤ 1048576) :
    Calls Tryd.prog 18 #[.slice a ss.length cap] w fun e w' => e = .returned (.bool (clB ss)) ∧ Below w.heap.size w w' := by
  obtain ⟨R, hR⟩ : ∃ R : Bool, clB ss = R := ⟨_, rfl⟩
  have HR : Hid (clB ss = R) := hR
  rw [hR]
  clear hR
  have HS : Hid (StrAt w a ss) := hS
  have HZ : Hid (∀ s ∈ ss, s.size ≤ 1048576) := hz
  clear hS hz
  obtain ⟨n, hnn⟩ : ∃ n, ss.length = n := ⟨_, rfl⟩
  have HN : Hid (ss.length = n) := hnn
  rw [hnn] at hn ⊢
  clear hnn
  go_enter Tryd.func18, Tryd.ntmps18
  go_wp2
  go_loopw [3] (fun i wr => ∃ j : Nat, i = .int .i64 (j : Int) ∧ j ≤ n ∧ Good ss j ∧ Below w.heap.size w wr) (fun i _ => n - (intOf i).toNat)
  case atStart => exact ⟨0, rfl, Nat.zero_le _, good_zero ss, Below.refl _ _⟩
  case round =>
    obtain ⟨j, rfl, hj, hG, hB⟩ := hrel
    have HG : Hid (Good ss j) := hG
    have HB : Hid (Below w.heap.size w wr) := hB
    clear hG hB
    by_cases hlt : j < n
    · go_wp2_with fail
      go_loopw [4] (fun k w1 => ∃ i : Nat, k = .int .i64 (i : Int) ∧ i ≤ j ∧ (∀ u ∈ ss.take i, hsB u = hsB (ss.getD j ByteArray.empty) → u = ss.getD j ByteArray.empty) ∧ Below w.heap.size w w1) (fun k _ => j - (intOf k).toNat)
      case atStart => exact ⟨0, rfl, Nat.zero_le _, fun u hu => by simp at hu, HB.out⟩
      case round =>
        obtain ⟨i, rfl, hi, hO, hB1⟩ := hrel
        have HO : Hid (∀ u ∈ ss.take i, hsB u = hsB (ss.getD j ByteArray.empty) → u = ss.getD j ByteArray.empty) := hO
        have HB1 : Hid (Below w.heap.size w wr) := hB1
        have hjs : j < ss.length := by rw [HN.out]; exact hlt
        have HE : Hid (ss.getD j ByteArray.empty = ss[j]) := by
          show ss.getD j ByteArray.empty = ss[j]
          rw [List.getD, List.getElem?_eq_getElem hjs]; rfl
        clear hO
        by_cases hik : i < j
        · have his : i < ss.length := by rw [HN.out]; omega
          have HT : Hid (ss.take (i + 1) = ss.take i ++ [ss[i]]) := take_next his
          obtain ⟨b, o, rfl, hb, c1⟩ := HS.out.below hB1 j hjs
          obtain ⟨b', o', e2, _, c2⟩ := HS.out.below hB1 i his
          obtain ⟨rfl, rfl⟩ : b = b' ∧ o = o' := by cases e2; exact ⟨rfl, rfl⟩
          clear e2 hB1
          have hin : (i : Int) < (n : Int) := by omega
          have hjn : (j : Int) < (n : Int) := by omega
          have z1 := HZ.out _ (List.getElem_mem hjs)
          have z2 := HZ.out _ (List.getElem_mem his)
          have HM1 : Hid (ss[j] ∈ ss) := List.getElem_mem hjs
          have HM2 : Hid (ss[i] ∈ ss) := List.getElem_mem his
          generalize ss[j] = x at *
          generalize ss[i] = y at *
          by_cases hxy : x = y
          · subst hxy
            have hq : (x.toList == x.toList) = true := by rw [str_beq]; exact decide_eq_true rfl
            go_wp2_with fail
            go_quiet (fail)
            go_wp2_with fail
            go_roundw
            case rel => exact ⟨i + 1, by go_num, by omega, by
              rw [HT.out, HE.out]
              intro u hu he
              rcases List.mem_append.1 hu with h1 | h1
              · have := HO.out u h1
                rw [HE.out] at this
                exact this he
              · exact List.mem_singleton.1 h1, below_drewN HB1.out _⟩
            case measure => simp [intOf]; omega
          · have hq : (x.toList == y.toList) = false := by rw [str_beq]; exact decide_eq_false hxy
            have HXY : Hid (¬ x = y) := hxy
            clear hxy
            by_cases hh : hsL x.data.toList = hsL y.data.toList
            · have HRT := HR.out
              rw [clB_true HM1.out HM2.out HXY.out hh] at HRT
              subst HRT
              have hd : (((hsL x.data.toList : Nat) : Int) == ((hsL y.data.toList : Nat) : Int)) = true := by rw [hh]; simp
              clear hh HR
              go_wp2_with fail
              go_quiet (first | (go_at_call 16; refine Calls.quiet_of_same (cHashS _ _ (by assumption))))
              go_wp2_with fail
              go_ret
              exact ⟨rfl, below_drewN HB1.out _⟩
            · have hd : (((hsL x.data.toList : Nat) : Int) == ((hsL y.data.toList : Nat) : Int)) = false := by rw [beq_eq_false_iff_ne]; omega
              have HH : Hid (¬ hsL x.data.toList = hsL y.data.toList) := hh
              clear hh
              go_wp2_with fail
              go_quiet (first | (go_at_call 16; refine Calls.quiet_of_same (cHashS _ _ (by assumption))))
              go_wp2_with fail
              go_roundw
              case rel => exact ⟨i + 1, by go_num, by omega, by
                rw [HT.out, HE.out]
                intro u hu he
                rcases List.mem_append.1 hu with h1 | h1
                · have := HO.out u h1
                  rw [HE.out] at this
                  exact this he
                · rw [List.mem_singleton] at h1
                  subst h1
                  exact absurd he.symm HH.out, below_drewN HB1.out _⟩
              case measure => simp [intOf]; omega
        · have hij : i = j := by omega
          subst hij
          have HG1 : Hid (Good ss (i + 1)) := by
            show Good ss (i + 1)
            refine good_next hjs HG.out ?_
            have := HO.out
            rw [HE.out] at this
            exact this
          clear hB1
          go_wp2_with fail
          go_roundw
          case rel => exact ⟨i + 1, by go_num, by omega, HG1.out, HB1.out⟩
          case measure => simp [intOf]; omega
    · have hje : j = n := by omega
      subst hje
      have h1 := HG.out
      rw [← HN.out] at h1
      have HRT := HR.out
      rw [good_end h1] at HRT
      subst HRT
      clear h1 HR HG
      go_wp2_with fail
      go_ret
      exact ⟨rfl, HB.out⟩

end Go.Proofs.YtidkbpcceoocaaaDoor
