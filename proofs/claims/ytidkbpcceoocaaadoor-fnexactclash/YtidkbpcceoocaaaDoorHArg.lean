/- Contracts of what the exact law on lists of texts calls: sized, copied, compared. -/
import Derived.Test.YtidkbpcceoocaaaDoorHStamp
namespace Go.Proofs.YtidkbpcceoocaaaDoor
open Go.RowKit
set_option linter.unusedVariables false
set_option linter.unusedSimpArgs false

set_option maxHeartbeats 2000000 in
theorem cSz (a : Option Addr) (cap : Nat) (ss : List ByteArray) (w : World) (hS : StrAt w a ss) (hz : ∀ s ∈ ss, s.size ≤ maxLen) (hn : ss.length ≤ maxLen) :
    Calls Tryd.prog 20 #[.slice a ss.length cap, .int .i64 1048576] w fun e w' => ∃ r : Int, e = .returned (.int .i64 r) ∧ (0 ≤ r → ss.length ≤ 1048576 ∧ ∀ s ∈ ss, s.size ≤ 1048576) ∧ w' = w := by
  have HS := show Hid (StrAt w a ss) from hS
  have HZ := show Hid (∀ s ∈ ss, s.size ≤ maxLen) from hz
  clear hS hz
  unfold maxLen at hn
  obtain ⟨n, hnn⟩ : ∃ n, ss.length = n := ⟨_, rfl⟩
  have HN := show Hid (ss.length = n) from hnn
  rw [hnn] at hn ⊢
  clear hnn
  by_cases hbig : n ≤ 1048576
  · have hw : IntKind.i64.wrap (1048576 - (n : Int)) = 1048576 - (n : Int) := IntWalk.i64_in _ (by omega)
    have hd : ¬ ((1048576 : Int) - (n : Int) < 0) := by omega
    go_enter Tryd.func20, Tryd.ntmps20
    go_wp2
    go_loop [1, 5] (fun l k => ∃ (i : Nat) (L : Int), k = .int .i64 (i : Int) ∧ i ≤ n ∧ l = .int .i64 L ∧ 0 ≤ L ∧ L ≤ 1048576 ∧ ∀ s ∈ ss.take i, s.size ≤ 1048576) (fun _ k => n - (intOf k).toNat)
    case atStart => exact ⟨0, _, rfl, Nat.zero_le _, rfl, by omega, by omega, fun s hs => by simp at hs⟩
    case round =>
      clear hw hd
      obtain ⟨i, L, rfl, hi, rfl, h0, h1, hA⟩ := hrel
      have HA := hid hA
      clear hA
      by_cases hlt : i < n
      · have his : i < ss.length := by rw [HN.out]; exact hlt
        have HT := hid (take_next his)
        obtain ⟨b, o, rfl, hb, c1⟩ := HS.out i his
        have z1 := HZ.out _ (List.getElem_mem his)
        unfold maxLen at z1
        have hin : (i : Int) < (n : Int) := by omega
        generalize ss[i] = x at *
        have hw : IntKind.i64.wrap (L - (x.size : Int)) = L - (x.size : Int) := IntWalk.i64_in _ (by omega)
        by_cases hneg : L - (x.size : Int) < 0
        · go_wp2
          go_ret
          exact ⟨-1, rfl, fun h => by omega, rfl⟩
        · go_wp2
          go_round
          case rel => exact ⟨i + 1, L - (x.size : Int), by go_num, by omega, by go_num, by omega, by omega, by
            rw [HT.out]
            intro s hs
            rcases List.mem_append.1 hs with h | h
            · exact HA.out s h
            · rw [List.mem_singleton] at h
              subst h
              omega⟩
          case measure => simp [intOf]; omega
      · have hie : i = n := by omega
        subst hie
        go_wp2
        go_ret
        have h2 := HA.out
        rw [List.take_of_length_le (by rw [HN.out]; exact Nat.le_refl _)] at h2
        exact ⟨L, rfl, fun _ => h2, rfl⟩
  · have hw : IntKind.i64.wrap (1048576 - (n : Int)) = 1048576 - (n : Int) := IntWalk.i64_in _ (by omega)
    have hd : (1048576 : Int) - (n : Int) < 0 := by omega
    go_enter Tryd.func20, Tryd.ntmps20
    go_wp2
    go_ret
    exact ⟨-1, rfl, fun h => by omega, rfl⟩

theorem info9 : (Tryd.prog.info? 9).map (fun i => (i.zero, i.size, i.bytes)) = some (some (.string ⟨#[]⟩), 1, 16) := by kernel_rfl

theorem makeStr (w : World) (n : Nat) (hn : n ≤ 1048576) : ∃ v w', (Instr.makeSlice 25 (.int .i64 (n : Int)) (.int .i64 (n : Int))).run Tryd.prog w = .ok v w' ∧ v = .slice (some ⟨w.heap.size, 0, none⟩) n n ∧ (∃ cur : Array Value, w'.heap[w.heap.size]? = some (.cells cur 9 (0, 0)) ∧ cur.size = n) ∧ w.grownBy w' none := by
  obtain ⟨i0, hi, hz0, hz1, hz2⟩ := info_parts info9
  obtain ⟨w', hrun, r1, r2⟩ := run_make_full (P := Tryd.prog) w w.heap.size 25 9 i0 _ 1 Tryd.underlying25 hi hz0 hz1 .i64 .i64 n (by rw [hz2]; omega) (by unfold maxLen; omega) (Nat.le_refl _)
  refine ⟨_, w', hrun, rfl, ?_, r2⟩
  rcases r1.2 with ⟨h, _⟩ | ⟨g, cap', cur, h, hgb, hh, _, _, hsz, _⟩
  · cases h
  · cases h
    exact ⟨cur, hh, by omega⟩

set_option maxHeartbeats 2000000 in
set_option maxRecDepth 8000 in
theorem cTo (a : Option Addr) (cap : Nat) (ss : List ByteArray) (w : World) (hS : StrAt w a ss) (hn : ss.length ≤ 1048576) :
    Calls Tryd.prog 21 #[.slice a ss.length cap] w fun e w' => ∃ g, e = .returned (.slice (some ⟨g, 0, none⟩) ss.length ss.length) ∧ StrAt w' (some ⟨g, 0, none⟩) ss ∧ Below w.heap.size w w' := by
  have HS := show Hid (StrAt w a ss) from hS
  clear hS
  obtain ⟨n, hnn⟩ : ∃ n, ss.length = n := ⟨_, rfl⟩
  have HN := show Hid (ss.length = n) from hnn
  rw [hnn] at hn ⊢
  clear hnn
  go_enter Tryd.func21, Tryd.ntmps21
  go_wp2_with fail
  refine upon_ex (makeStr w n hn) ?_
  rintro _ w1 ⟨rfl, ⟨cur, hcur, hcs⟩, hg⟩
  have HB := hid ((Below.refl w.heap.size w).grown hg (Nat.le_refl _) (by simp))
  have HC := hid hcur
  clear hcur hg
  go_wp2_with fail
  go_loopw [4] (fun k wr => ∃ (i : Nat) (cur : Array Value), k = .int .i64 (i : Int) ∧ i ≤ n ∧ wr.heap[w.heap.size]? = some (.cells cur 9 (0, 0)) ∧ cur.size = n ∧ (∀ j (h : j < ss.length), j < i → cur[j]? = some (.string ss[j])) ∧ Below w.heap.size w wr) (fun k _ => n - (intOf k).toNat)
  case atStart => exact ⟨0, cur, rfl, Nat.zero_le _, HC.out, hcs, fun j _ h => by omega, HB.out⟩
  case round =>
    clear HC HB hcs cur
    obtain ⟨i, cur, rfl, hi, hh, hcs, hA, hB⟩ := hrel
    have HA := hid hA
    have HH := hid hh
    have HB := hid hB
    have hsz : w.heap.size ≤ wr.heap.size := hB.size
    by_cases hlt : i < n
    · have his : i < ss.length := by rw [HN.out]; exact hlt
      obtain ⟨b, o, rfl, hb, c0⟩ := HS.out i his
      have c1 : wr.cell? ⟨b, o + i, none⟩ = some (.string ss[i]) := (hB.cell (p := ⟨b, o + i, none⟩) hb).trans c0
      have hx : ∃ v, wr.cell? ⟨w.heap.size, i, none⟩ = some v := by
        rw [Lib.cell_of_heap hh]
        exact ⟨cur[i]'(by omega), Array.getElem?_eq_getElem (by omega)⟩
      obtain ⟨old, c2⟩ := hx
      have f2 : wr.frozen? ⟨w.heap.size, i, none⟩ = false := Lib.frozen_of_heap hh i
      have hin : (i : Int) < (n : Int) := by omega
      have HS2 := hid (show (wr.setCell ⟨w.heap.size, i, none⟩ (.string ss[i])).heap[w.heap.size]? = some (.cells (cur.setIfInBounds i (.string ss[i])) 9 (0, 0)) by
        simp [World.setCell, Array.getElem?_modify, hh])
      have HA2 := hid (show ∀ j (h : j < ss.length), j < i + 1 → (cur.setIfInBounds i (.string ss[i]))[j]? = some (.string ss[j]) from fun j h hj => by
        rw [Array.getElem?_setIfInBounds]
        by_cases e : i = j
        · subst e
          rw [if_pos rfl, if_pos (by omega)]
        · rw [if_neg e]
          exact hA j h (by omega))
      have HB2 := hid (hB.setCell (p := ⟨w.heap.size, i, none⟩) (Nat.le_refl _) (.string ss[i]))
      have HC2 := hid (show (cur.setIfInBounds i (.string ss[i])).size = n by simp [hcs])
      clear hA hh hB c0 hcs
      generalize ss[i] = x at c1 HS2 HA2 HB2 HC2
      go_wp2_with fail
      go_roundw
      case rel => exact ⟨i + 1, _, by go_num, by omega, HS2.out, HC2.out, HA2.out, HB2.out⟩
      case measure => simp [intOf]; omega
    · have hie : i = n := by omega
      subst hie
      clear hA hh hB
      go_wp2_with fail
      go_ret
      refine ⟨w.heap.size, rfl, fun j hj => ⟨w.heap.size, 0, rfl, lt_of_heap HH.out, ?_⟩, HB.out⟩
      rw [Lib.cell_of_heap HH.out, Nat.zero_add]
      exact HA.out j hj (by rw [← HN.out]; exact hj)

set_option maxHeartbeats 2000000 in
theorem cEqS (a c : Option Addr) (cap cap2 : Nat) (ss : List ByteArray) (w : World) (hS : StrAt w a ss) (hT : StrAt w c ss) (hn : ss.length ≤ 1048576) :
    Calls Tryd.prog 22 #[.slice a ss.length cap, .slice c ss.length cap2] w fun e w' => e = .returned (.bool true) ∧ Below w.heap.size w w' := by
  have HS := show Hid (StrAt w a ss) from hS
  have HT := show Hid (StrAt w c ss) from hT
  clear hS hT
  obtain ⟨n, hnn⟩ : ∃ n, ss.length = n := ⟨_, rfl⟩
  have HN := show Hid (ss.length = n) from hnn
  rw [hnn] at hn ⊢
  clear hnn
  go_enter Tryd.func22, Tryd.ntmps22
  go_wp2
  go_loopw [5] (fun k wr => ∃ i : Nat, k = .int .i64 (i : Int) ∧ i ≤ n ∧ Below w.heap.size w wr) (fun k _ => n - (intOf k).toNat)
  case atStart => exact ⟨0, rfl, Nat.zero_le _, Below.refl _ _⟩
  case round =>
    obtain ⟨i, rfl, hi, hB⟩ := hrel
    have HB := hid hB
    by_cases hlt : i < n
    · have his : i < ss.length := by rw [HN.out]; exact hlt
      obtain ⟨b, o, rfl, _, c1⟩ := HS.out.below hB i his
      obtain ⟨b', o', rfl, _, c2⟩ := HT.out.below hB i his
      have hin : (i : Int) < (n : Int) := by omega
      generalize ss[i] = x at c1 c2
      have hq : (x.toList == x.toList) = true := by rw [str_beq]; exact decide_eq_true rfl
      clear hB
      go_wp2_with fail
      go_quiet (fail)
      go_wp2_with fail
      go_roundw
      case rel => exact ⟨i + 1, by go_num, by omega, below_drewN HB.out _⟩
      case measure => simp [intOf]; omega
    · have hie : i = n := by omega
      subst hie
      clear hB
      go_wp2_with fail
      go_ret
      exact ⟨rfl, HB.out⟩

end Go.Proofs.YtidkbpcceoocaaaDoor
