/- Contracts of what TimeOf calls: the specification's digits, the program's days ahead of a month. Contract of the program's six numbers of a text. Contract of the program's TimeOf. -/
import Derived.Test.YtknpgdglabibiaaGreatDoorM22
import Derived.Test.YtknpgdglabibiaaGreatDoorM20
import Derived.Laws.Strings3
import Derived.Deep.RegionWith
namespace Go.Proofs.YtknpgdglabibiaaGreatDoor
open Go.RowKit
set_option linter.unusedVariables false
set_option linter.unusedSimpArgs false

set_option maxHeartbeats 2000000 in
theorem cDigitsS (b : ByteArray) (o wd : Nat) (w : World) (hw : wd ≤ 15) (hb : o + wd ≤ b.size) (hs : b.size ≤ 1048576) :
    Calls Tryz.prog 80 #[.string b, .int .i64 o, .int .i64 wd] w fun e w' => e = .returned (.int .i64 (rdI ((b.data.toList.drop o).take wd))) ∧ w' = w := by
  obtain ⟨R, hR⟩ : ∃ R : Int, rdI ((b.data.toList.drop o).take wd) = R := ⟨_, rfl⟩
  have HR : Hid (rdI ((b.data.toList.drop o).take wd) = R) := hR
  rw [hR]
  clear hR
  go_enter Tryz.func80, Tryz.ntmps80
  go_wp2
  go_loop [7, 8] (fun n i => ∃ j v : Nat, i = .int .i64 ((o + j : Nat) : Int) ∧ j ≤ wd ∧ n = .int .i64 (v : Int) ∧ v = valD ((b.data.toList.drop o).take j) ∧ ((b.data.toList.drop o).take j).all isDig = true) (fun _ i => o + wd - (intOf i).toNat)
  case atStart => exact ⟨0, 0, rfl, Nat.zero_le _, rfl, rfl, rfl⟩
  case round =>
    obtain ⟨j, v, rfl, hj, rfl, hv, hall⟩ := hrel
    have hvb : v < 1000000000000000 := by rw [hv]; exact val_bound (n := wd) hall (by simp; omega) hw
    have HV : Hid (v = valD ((b.data.toList.drop o).take j)) := hv
    have HA : Hid (((b.data.toList.drop o).take j).all isDig = true) := hall
    clear hv hall
    obtain ⟨p, hp⟩ : ∃ p : Nat, o + j = p := ⟨_, rfl⟩
    have HP : Hid (o + j = p) := hp
    by_cases hlt : j < wd
    · have hpb : p < b.size := by omega
      have hpw : p < o + wd := by omega
      have hts := t_take_snoc b o j (by omega)
      simp only [hp] at hts
      have HT : Hid ((b.data.toList.drop o).take (j + 1) = (b.data.toList.drop o).take j ++ [b[p]]) := hts
      rw [hp]
      clear hts hp
      have hwr : IntKind.i64.wrap ((o : Int) + (wd : Int)) = (o : Int) + (wd : Int) := IntWalk.i64_in _ (by omega)
      have hpi : (p : Int) < (o : Int) + (wd : Int) := by omega
      by_cases hd : isDig b[p] = true
      · have hs48 := sub48 b[p] hd
        have HD : Hid (isDig b[p] = true) := hd
        have q1 : 48 ≤ b[p].toNat := by unfold isDig at hd; simp at hd; omega
        have q2 : b[p].toNat ≤ 57 := by unfold isDig at hd; simp at hd; omega
        have d1 : decide ((b[p].toNat : Int) < 48) = false := by simp; omega
        have d2 : decide ((57 : Int) < (b[p].toNat : Int)) = false := by simp; omega
        obtain ⟨x, hx⟩ : ∃ x : Nat, b[p].toNat - 48 = x := ⟨_, rfl⟩
        have hx9 : x ≤ 255 := by omega
        have HX : Hid (b[p].toNat - 48 = x) := hx
        rw [hx] at hs48
        clear hx hd
        go_wp2_with fail
        go_round
        case rel =>
          have h1 := HP.out
          refine ⟨j + 1, 10 * v + x, by go_num, by omega, by go_num, ?_, ?_⟩
          · rw [HT.out, valD_snoc, ← HV.out, HX.out]
          · rw [HT.out, all_snoc, HA.out, HD.out]; rfl
        case measure => simp [intOf]; omega
      · replace hd : isDig b[p] = false := by simpa using hd
        have hf := all_false HT.out hd wd hlt
        have h2 := HR.out
        unfold rdI at h2
        rw [if_neg (by rw [hf]; simp)] at h2
        subst h2
        have hq : b[p].toNat < 48 ∨ (48 ≤ b[p].toNat ∧ 57 < b[p].toNat) := by
          unfold isDig at hd
          simp at hd
          omega
        clear hd hf HR HT HA HV
        rcases hq with hq | ⟨hq, hq2⟩
        · have d1 : decide ((b[p].toNat : Int) < 48) = true := by simp; omega
          go_wp2_with fail
          go_ret
          exact ⟨rfl, rfl⟩
        · have d1 : decide ((b[p].toNat : Int) < 48) = false := by simp; omega
          have d2 : decide ((57 : Int) < (b[p].toNat : Int)) = true := by simp; omega
          go_wp2_with fail
          go_ret
          exact ⟨rfl, rfl⟩
    · have hje : j = wd := by omega
      have hpw : ¬ p < o + wd := by omega
      rw [hp]
      clear hp
      have hwr : IntKind.i64.wrap ((o : Int) + (wd : Int)) = (o : Int) + (wd : Int) := IntWalk.i64_in _ (by omega)
      have hpi : ¬ (p : Int) < (o : Int) + (wd : Int) := by omega
      have h2 := HR.out
      unfold rdI at h2
      rw [← hje, if_pos HA.out, ← HV.out] at h2
      subst h2
      clear HR HA HV hje
      go_wp2_with fail
      go_ret
      exact ⟨rfl, rfl⟩

set_option maxHeartbeats 4000000 in
theorem cAhead (k m : Nat) (w : World) (hk : k < 100) (hm1 : 1 ≤ m) (hm2 : m ≤ 12) (hM : Mon w) :
    Calls Tryz.prog 148 #[.int .i64 (2000 + k : Nat), .int .i64 m] w fun e w' => e = .returned (.int .i64 (yb k + mb (lp k) m : Nat)) ∧ Below w.heap.size w w' := by
  have HM : Hid (Mon w) := hM
  clear hM
  obtain ⟨Y, hY⟩ : ∃ Y : Int, ((2000 + k : Nat) : Int) = Y := ⟨_, rfl⟩
  have HY : Hid (((2000 + k : Nat) : Int) = Y) := hY
  rw [hY]
  clear hY
  go_enter Tryz.func148, Tryz.ntmps148
  go_wp2
  go_loopw [5, 6] (fun ds y wr => ∃ j v : Nat, j ≤ k ∧ ds = .int .i64 (v : Int) ∧ v = yb j ∧ y = .int .i64 ((2000 + j : Nat) : Int) ∧ Below w.heap.size w wr) (fun _ y _ => 2000 + k - (intOf y).toNat)
  case atStart => exact ⟨0, 0, Nat.zero_le _, rfl, rfl, rfl, Below.refl _ _⟩
  case round =>
    obtain ⟨j, v, hj, rfl, hv, rfl, hB⟩ := hrel
    have hvb : v ≤ 36525 := by rw [hv]; unfold yb; omega
    have HV : Hid (v = yb j) := hv
    have HB : Hid (Below w.heap.size w wr) := hB
    have hMr : Mon wr := HM.out.below hB
    have A1 := cMonthsOf j wr (by omega) hMr
    have A2 := fun wx hb => cDays j wx (hMr.below hb)
    clear hv hB hMr
    obtain ⟨y, hy⟩ : ∃ y : Int, ((2000 + j : Nat) : Int) = y := ⟨_, rfl⟩
    have HYj : Hid (((2000 + j : Nat) : Int) = y) := hy
    have hy1 : 2000 ≤ y := by omega
    have hy2 : y ≤ 2100 := by omega
    rw [hy] at A1 ⊢
    clear hy
    obtain ⟨C, hC⟩ : ∃ C : Array Value, monC j = C := ⟨_, rfl⟩
    rw [hC] at A1 A2
    obtain ⟨L, hL⟩ : ∃ L : Nat, 365 + lp j = L := ⟨_, rfl⟩
    have HL : Hid (365 + lp j = L) := hL
    have hL2 : L ≤ 366 := by rw [← hL]; unfold lp; split <;> omega
    rw [hL] at A2
    clear hC hL
    by_cases hlt : j < k
    · have hyi : decide (y < Y) = true := by have h1 := HY.out; have h2 := HYj.out; simp; omega
      go_wp2_with fail
      refine A1.mono ?_
      rintro e w1 ⟨rfl, hb1⟩
      go_wp2_with fail
      refine (A2 w1 hb1).mono ?_
      rintro e w2 ⟨rfl, hb2⟩
      have hB2 : Below w.heap.size w w2 := HB.out.trans ((hb1.trans (hb2.mono hb1.size)).mono HB.out.size)
      clear hb1 hb2 A1 A2
      go_wp2_with fail
      go_roundw
      case rel =>
        have h1 := HYj.out; have h2 := HV.out; have h3 := HL.out
        refine ⟨j + 1, v + L, by omega, by go_num, by rw [yb_succ, h3]; omega, ?_, hB2⟩
        rw [← h1]; go_num
      case measure => have h1 := HYj.out; simp [intOf]; omega
    · have hyi : decide (y < Y) = false := by have h1 := HY.out; have h2 := HYj.out; simp; omega
      have hje : j = k := by omega
      subst hje
      clear A1 A2
      go_wp2_with fail
      go_loopw [5, 7] (fun ds q wx => ∃ n u : Nat, 1 ≤ n ∧ n ≤ m ∧ ds = .int .i64 (u : Int) ∧ u = yb j + mb (lp j) n ∧ q = .int .i64 (n : Int) ∧ Below w.heap.size w wx) (fun _ q _ => m - (intOf q).toNat)
      case atStart => exact ⟨1, v, by omega, hm1, rfl, by rw [HV.out]; rfl, rfl, HB.out⟩
      case round =>
        obtain ⟨n, u, hn1, hn2, rfl, hu, rfl, hB⟩ := hrel
        have hub : u ≤ 40000 := by
          have h1 := mb_lt_13 (lp j) n hn1 (by omega)
          have h2 : yb j ≤ 36525 := by unfold yb; omega
          have h3 : lp j ≤ 1 := by unfold lp; split <;> omega
          omega
        have HU : Hid (u = yb j + mb (lp j) n) := hu
        have HBx : Hid (Below w.heap.size w wr) := hB
        have A := cDaysI_in j n wr hk hn1 (by omega) (HM.out.below hB)
        obtain ⟨D, hD⟩ : ∃ D : Nat, dm (lp j) n = D := ⟨_, rfl⟩
        have hD2 : D ≤ 32 := by
          have := (dm_pos (lp j) n hn1 (by omega)).2
          have : lp j ≤ 1 := by unfold lp; split <;> omega
          omega
        have HD : Hid (dm (lp j) n = D) := hD
        rw [hD, HY.out] at A
        clear hu hB hD
        by_cases hlt2 : n < m
        · go_wp2_with fail
          refine A.mono ?_
          rintro e w3 ⟨rfl, hb3⟩
          have hB3 : Below w.heap.size w w3 := HBx.out.trans (hb3.mono HBx.out.size)
          clear hb3
          go_wp2_with fail
          go_roundw
          case rel =>
            have h1 := HU.out; have h2 := HD.out
            exact ⟨n + 1, u + D, by omega, by omega, by go_num, by rw [mb_succ _ _ hn1 (by omega)]; omega, by go_num, hB3⟩
          case measure => simp [intOf]; omega
        · have hne : n = m := by omega
          subst hne
          clear A
          go_wp2_with fail
          go_ret
          exact ⟨by rw [← HU.out]; rfl, HBx.out⟩

end Go.Proofs.YtknpgdglabibiaaGreatDoor

namespace Go.Proofs.YtknpgdglabibiaaGreatDoor
open Go.RowKit
set_option linter.unusedVariables false
set_option linter.unusedSimpArgs false

def restB (u : ByteArray) (j : Nat) : ByteArray := u.extract (off j) u.size
def fieldB (u : ByteArray) (j : Nat) : ByteArray := u.extract (off j) (off j + wid j)

theorem off_succ (j : Nat) : off (j + 1) = off j + wid j + 1 := by
  unfold off wid
  by_cases h : j = 0
  · subst h; rfl
  · rw [if_neg h, if_neg h, if_neg (by omega)]; omega

theorem off_le (j : Nat) (h : j ≤ 6) : off j ≤ 20 := by
  unfold off
  split <;> omega

theorem wid_le (j : Nat) : wid j ≤ 4 ∧ 2 ≤ wid j := by
  unfold wid
  split <;> omega

theorem rest_size (u : ByteArray) (j : Nat) (hu : u.size = 20) (h : j ≤ 6) : (restB u j).size = 20 - off j := by
  unfold restB
  rw [ByteArray.size_extract, hu]
  omega

theorem extract_list (u : ByteArray) (a b : Nat) : (u.extract a b).data.toList = (u.data.toList.drop a).take (b - a) := by
  rw [ByteArray.data_extract, Array.toList_extract, List.extract_eq_take_drop]

theorem field_list (u : ByteArray) (j : Nat) : (fieldB u j).data.toList = fieldL u.data.toList j := by
  unfold fieldB fieldL
  rw [extract_list]
  congr 1
  omega

theorem field_size (u : ByteArray) (j : Nat) : (fieldB u j).size ≤ 15 := by
  rw [t_sz, field_list]
  unfold fieldL
  have := (wid_le j).1
  simp
  omega

theorem ext_list {a b : ByteArray} (h : a.data.toList = b.data.toList) : a = b := by
  apply ByteArray.ext
  apply Array.toList_inj.1
  exact h

theorem slice_lo (u : ByteArray) (j : Nat) (hu : u.size = 20) (h : j < 6) (W : World) :
    (Instr.slice 9 (.string (restB u j)) none (some (.int .i64 (wid j : Int))) none).run Tryz.prog W = .ok (.string (fieldB u j)) W := by
  have hs := rest_size u j hu (by omega)
  have ho := off_le (j + 1) (by omega)
  rw [off_succ] at ho
  rw [run_slice_string_to_if W 9 (restB u j) .i64 (wid j : Int) Tryz.underlying9]
  rw [if_pos (by rw [hs]; omega)]
  congr 2
  apply ext_list
  rw [field_list]
  unfold restB fieldL
  simp only [Int.toNat_natCast]
  rw [extract_list, extract_list, hu, List.drop_zero, Nat.sub_zero, List.take_take, Nat.min_eq_left (by omega)]

theorem slice_hi (u : ByteArray) (j : Nat) (hu : u.size = 20) (h : j < 6) (W : World) :
    (Instr.slice 9 (.string (restB u j)) (some (.int .i64 ((wid j : Int) + 1))) none none).run Tryz.prog W = .ok (.string (restB u (j + 1))) W := by
  have hs := rest_size u j hu (by omega)
  have ho := off_le (j + 1) (by omega)
  have hoo := off_succ j
  rw [off_succ] at ho
  rw [run_slice_string_from_if W 9 (restB u j) .i64 ((wid j : Int) + 1) Tryz.underlying9]
  rw [if_pos (by rw [hs]; omega)]
  congr 2
  apply ext_list
  have e : ((wid j : Int) + 1).toNat = wid j + 1 := by omega
  rw [hs, e]
  unfold restB
  rw [extract_list, extract_list, extract_list, hu, hoo]
  rw [List.drop_take, List.drop_drop, List.take_take]
  congr 1
  all_goals first | omega | (congr 1; omega)

/-- The numbers when j of them have been read. -/
def gN (l : List UInt8) (j q : Nat) : Int := if q < j then rdI (fieldL l q) else 0

def cellsN (g : Nat → Int) : Array Value := #[.int .i64 (g 0), .int .i64 (g 1), .int .i64 (g 2), .int .i64 (g 3), .int .i64 (g 4), .int .i64 (g 5)]

theorem cells_setL (l : List UInt8) (j : Nat) (h : j < 6) : ([Value.int .i64 (gN l j 0), .int .i64 (gN l j 1), .int .i64 (gN l j 2), .int .i64 (gN l j 3), .int .i64 (gN l j 4), .int .i64 (gN l j 5)].set j (.int .i64 (rdI (fieldL l j)))).toArray = cellsN (gN l (j + 1)) := by
  rcases (show j = 0 ∨ j = 1 ∨ j = 2 ∨ j = 3 ∨ j = 4 ∨ j = 5 by omega) with rfl | rfl | rfl | rfl | rfl | rfl <;> rfl

theorem rd_all {l : List UInt8} (h : l.all isDig = true) : (if l.all isDig = true then (valD l : Int) else 0) = rdI l := by
  unfold rdI
  rw [if_pos h, if_pos h]

theorem res_row (w : World) (G G' : Nat → Int) (tmps : Array Value) (b : Bool) (h2 : tmps.getD 2 undef = .pointer (some ⟨w.heap.size, 0, none⟩)) (h3 : tmps.getD 3 undef = .bool b) :
    (results Tryz.f147 tmps).run Tryz.prog ((w.alloc (.cells (cellsN G) 154)).alloc (.cells (cellsN G') 154)) = .ok (.tuple #[.agg (cellsN G), .bool b]) ((w.alloc (.cells (cellsN G) 154)).alloc (.cells (cellsN G') 154)) := by
  have hh : ((w.alloc (.cells (cellsN G) 154)).alloc (.cells (cellsN G') 154)).heap[w.heap.size]? = some (.cells (cellsN G) 154 (0, 0)) := by
    rw [Below.heap_alloc _ _ _ (by simp)]
    exact heap_alloc_last w _
  have hl := run_loadVar_row (P := Tryz.prog) _ w.heap.size 154 154 (cellsN G) (0, 0) _ hh Tryz.underlying154 rfl (by kernel_rfl)
  have h2' : tmps[2]?.getD undef = .pointer (some ⟨w.heap.size, 0, none⟩) := by simpa using h2
  have h3' : tmps[3]?.getD undef = .bool b := by simpa using h3
  simp [results, Tryz.results147, h2', h3', asAddr, hl]

set_option maxHeartbeats 4000000 in
set_option maxRecDepth 4000 in
theorem cNumbers (u : ByteArray) (w : World) (hu : u.size = 20) :
    Calls Tryz.prog 147 #[.string u] w fun e w' => ∃ (g : Nat → Int) (ok : Bool), e = .returned (.tuple #[.agg (cellsN g), .bool ok]) ∧ (ok = true → ∀ q, q < 6 → g q = rdI (fieldL u.data.toList q) ∧ 0 ≤ g q) ∧ (ok = false → ∃ q, q < 6 ∧ rdI (fieldL u.data.toList q) = -1) ∧ Below w.heap.size w w' := by
  have HU : Hid (u.size = 20) := hu
  have HU2 : Hid (u = restB u 0) := by
    show u = restB u 0
    apply ext_list
    unfold restB
    rw [extract_list]
    show _ = (u.data.toList.drop 0).take (u.size - 0)
    rw [List.drop_zero, Nat.sub_zero, t_sz, List.take_length]
  have hul : (u.size : Int) = 20 := by omega
  go_enter Tryz.func147, Tryz.ntmps147
  go_wp2_with fail
  go_loopw [0, 5, 13] (fun s wd i wr => ∃ j : Nat, i = .int .i64 (j : Int) ∧ j ≤ 6 ∧ s = .string (restB u j) ∧ wd = .int .i64 (wid j : Int) ∧ (∀ q, q < j → 0 ≤ rdI (fieldL u.data.toList q)) ∧ wr = (w.alloc (.cells (cellsN fun _ => 0) 154)).alloc (.cells (cellsN (gN u.data.toList j)) 154)) (fun _ _ i _ => 6 - (intOf i).toNat)
  case atStart => exact ⟨0, rfl, by omega, congrArg Value.string HU2.out, rfl, fun q hq => absurd hq (Nat.not_lt_zero q), rfl⟩
  case round =>
    obtain ⟨j, rfl, hj, rfl, rfl, hall, rfl⟩ := hrel
    have HAll : Hid (∀ q, q < j → 0 ≤ rdI (fieldL u.data.toList q)) := hall
    clear hall hul hu
    by_cases hlt : j < 6
    · have slo := slice_lo u j HU.out hlt
      have shi := slice_hi u j HU.out hlt
      have C := fun w => cDigitsI (fieldB u j) w (field_size u j)
      rw [field_list] at C
      have hwd := wid_le j
      have HW1 : Hid (wid (j + 1) = 2) := by show wid (j + 1) = 2; unfold wid; rw [if_neg (by omega)]
      have hset := cells_setL u.data.toList j hlt
      obtain ⟨r, hr⟩ : ∃ r, restB u j = r := ⟨_, rfl⟩
      obtain ⟨r', hr'⟩ : ∃ r', restB u (j + 1) = r' := ⟨_, rfl⟩
      obtain ⟨f, hf⟩ : ∃ f, fieldB u j = f := ⟨_, rfl⟩
      obtain ⟨wd, hwde⟩ : ∃ wd, wid j = wd := ⟨_, rfl⟩
      have HR' : Hid (restB u (j + 1) = r') := hr'
      rw [hr, hf, hwde] at slo
      rw [hr, hr', hwde] at shi
      rw [hf] at C
      rw [hwde] at hwd
      rw [hr, hwde]
      obtain ⟨hwd1, hwd2⟩ := hwd
      clear hr hr' hf hwde
      by_cases hd : (fieldL u.data.toList j).all isDig = true
      · rw [rd_all hd, hd] at C
        have HP : Hid (0 ≤ rdI (fieldL u.data.toList j)) := by
          show 0 ≤ rdI (fieldL u.data.toList j)
          unfold rdI
          rw [if_pos hd]
          omega
        obtain ⟨v, hv⟩ : ∃ v, rdI (fieldL u.data.toList j) = v := ⟨_, rfl⟩
        rw [hv] at C hset
        have HV : Hid (rdI (fieldL u.data.toList j) = v) := hv
        have HS : Hid (_ = cellsN (gN u.data.toList (j + 1))) := hset
        obtain ⟨G, hG⟩ : ∃ G, gN u.data.toList j = G := ⟨_, rfl⟩
        rw [hG] at HS ⊢
        clear hset hv hd hG
        unfold cellsN at HS ⊢
        go_wp2_with fail
        refine (C _).mono ?_
        rintro e w' ⟨rfl, rfl⟩
        go_wp2_with fail
        go_roundw
        case rel =>
          refine ⟨j + 1, by go_num, by omega, by rw [HR'.out], by rw [HW1.out]; rfl, ?_, ?_⟩
          · intro q hq
            rcases (show q < j ∨ q = j by omega) with h | h
            · exact HAll.out q h
            · rw [h]; exact HP.out
          · exact congrArg (fun c => (w.alloc (.cells (cellsN fun _ => 0) 154)).alloc (.cells c 154)) HS.out
        case measure => simp [intOf]; omega
      · have hd' : (fieldL u.data.toList j).all isDig = false := by simpa using hd
        have HP : Hid (rdI (fieldL u.data.toList j) = -1) := by
          show rdI (fieldL u.data.toList j) = -1
          unfold rdI
          rw [if_neg hd]
        rw [if_neg hd, hd'] at C
        obtain ⟨G, hG⟩ : ∃ G, gN u.data.toList j = G := ⟨_, rfl⟩
        rw [hG]
        clear hset hd hd' hG shi
        unfold cellsN
        go_wp2_with fail
        refine (C _).mono ?_
        rintro e w' ⟨rfl, rfl⟩
        go_wp2_with fail
        refine bodyPost_ret (v := .tuple #[.agg (cellsN G), .bool false]) ?_ rfl ⟨G, false, rfl, fun h => by simp at h, fun _ => ⟨j, hlt, HP.out⟩, ?_⟩
        · exact res_row w G G _ _ rfl rfl
        · exact ((Below.refl _ _).alloc (Nat.le_refl _) _).alloc (by simp) _
    · have hje : j = 6 := by omega
      subst hje
      obtain ⟨G, hG⟩ : ∃ G, gN u.data.toList 6 = G := ⟨_, rfl⟩
      have HG : Hid (∀ q, q < 6 → G q = rdI (fieldL u.data.toList q) ∧ 0 ≤ G q) := by
        show ∀ q, q < 6 → G q = rdI (fieldL u.data.toList q) ∧ 0 ≤ G q
        intro q hq
        have e : G q = rdI (fieldL u.data.toList q) := by rw [← hG]; unfold gN; rw [if_pos hq]
        exact ⟨e, by rw [e]; exact HAll.out q hq⟩
      rw [hG]
      clear hG
      unfold cellsN
      go_wp2_with fail
      refine bodyPost_ret (v := .tuple #[.agg (cellsN G), .bool true]) ?_ rfl ⟨G, true, rfl, fun _ => HG.out, fun h => by simp at h, ?_⟩
      · exact res_row w G G _ _ rfl rfl
      · exact ((Below.refl _ _).alloc (Nat.le_refl _) _).alloc (by simp) _

end Go.Proofs.YtknpgdglabibiaaGreatDoor

namespace Go.Proofs.YtknpgdglabibiaaGreatDoor
open Go.RowKit
set_option linter.unusedVariables false
set_option linter.unusedSimpArgs false

set_option maxHeartbeats 4000000 in
theorem cNumbers_no (u : ByteArray) (w : World) (hu : ¬ u.size = 20) :
    Calls Tryz.prog 147 #[.string u] w fun e w' => e = .returned (.tuple #[.agg (cellsN fun _ => 0), .bool false]) ∧ Below w.heap.size w w' := by
  have hul : ¬ (u.size : Int) = 20 := by omega
  go_enter Tryz.func147, Tryz.ntmps147
  go_wp2_with fail
  refine bodyPost_ret (v := .tuple #[.agg (cellsN fun _ => 0), .bool false]) ?_ rfl ⟨rfl, ?_⟩
  · exact res_row w (fun _ => 0) (fun _ => 0) _ _ rfl rfl
  · exact ((Below.refl _ _).alloc (Nat.le_refl _) _).alloc (by simp) _

theorem field_len (l : List UInt8) (q : Nat) : (fieldL l q).length ≤ 4 := by
  unfold fieldL
  have := (wid_le q).1
  simp
  omega

theorem rd_small (l : List UInt8) (q : Nat) : rdI (fieldL l q) < 10000 := by
  have h1 := (rdI_bounds (fieldL l q)).2
  have h2 : (10 : Nat) ^ (fieldL l q).length ≤ 10 ^ 4 := Nat.pow_le_pow_right (by decide) (field_len l q)
  have h3 : ((10 ^ (fieldL l q).length : Nat) : Int) = (10 : Int) ^ (fieldL l q).length := by simp
  have h4 : (10 : Nat) ^ 4 = 10000 := by decide
  omega

/-- The two ends. -/
theorem cOfI_no20 (u : ByteArray) (w : World) (hu : ¬ u.size = 20) :
    Calls Tryz.prog 134 #[.string u] w fun e w' => e = .returned (.tuple #[.int .i64 0, .bool false]) ∧ Below w.heap.size w w' := by
  have C := cNumbers_no u w hu
  unfold cellsN at C
  clear hu
  go_enter Tryz.func134, Tryz.ntmps134
  go_wp2_with fail
  refine C.mono ?_
  rintro e w1 ⟨rfl, hb1⟩
  go_wp2_with fail
  go_ret2
  exact ⟨rfl, hb1.alloc hb1.size _⟩

theorem cell6 {w1 W : World} {b0 b1 b2 b3 b4 b5 : Int} (hb : Below (w1.heap.size + 1) (w1.alloc (.cells #[.int .i64 b0, .int .i64 b1, .int .i64 b2, .int .i64 b3, .int .i64 b4, .int .i64 b5] 154)) W) :
    W.cell? ⟨w1.heap.size, 0, none⟩ = some (.int .i64 b0) ∧ W.cell? ⟨w1.heap.size, 1, none⟩ = some (.int .i64 b1) ∧ W.cell? ⟨w1.heap.size, 2, none⟩ = some (.int .i64 b2) ∧ W.cell? ⟨w1.heap.size, 3, none⟩ = some (.int .i64 b3) ∧ W.cell? ⟨w1.heap.size, 4, none⟩ = some (.int .i64 b4) ∧ W.cell? ⟨w1.heap.size, 5, none⟩ = some (.int .i64 b5) := by
  have hh : W.heap[w1.heap.size]? = some (.cells #[.int .i64 b0, .int .i64 b1, .int .i64 b2, .int .i64 b3, .int .i64 b4, .int .i64 b5] 154 (0, 0)) := by
    rw [hb.block _ (by omega)]
    exact heap_alloc_last w1 _
  refine ⟨?_, ?_, ?_, ?_, ?_, ?_⟩ <;> (rw [cell_of_row _ _ _ _ _ _ hh]; rfl)

set_option maxHeartbeats 8000000 in
set_option maxRecDepth 4000 in
theorem cOfI_20 (u : ByteArray) (w : World) (hu : u.size = 20) (hL : Laid w) :
    Calls Tryz.prog 134 #[.string u] w fun e w' => e = .returned (.tuple #[.int .i64 (timeOf u.data.toList).1, .bool (timeOf u.data.toList).2]) ∧ Below w.heap.size w w' := by
  have HL : Hid (Laid w) := hL
  have HU : Hid (u.size = 20) := hu
  have C := cNumbers u w hu
  obtain ⟨l, hl⟩ : ∃ l, u.data.toList = l := ⟨_, rfl⟩
  have Hl : Hid (u.data.toList = l) := hl
  rw [hl] at C ⊢
  obtain ⟨T, hT⟩ : ∃ T : Int × Bool, timeOf l = T := ⟨_, rfl⟩
  have HT : Hid (timeOf l = T) := hT
  rw [hT]
  obtain ⟨T1, T2⟩ := T
  clear hl hT hu hL
  go_enter Tryz.func134, Tryz.ntmps134
  go_wp2_with fail
  refine C.mono ?_
  rintro e w1 ⟨g, ok, rfl, hok, hno, hb1⟩
  unfold cellsN
  cases ok
  · obtain ⟨q, hq, hr⟩ := hno rfl
    have hbad := timeOf_bad (l := l) (fun h => by
      obtain ⟨⟨k, m, _, _, _, h0, h1, h2, _⟩, h3, h4, h5⟩ := h
      rcases (show q = 0 ∨ q = 1 ∨ q = 2 ∨ q = 3 ∨ q = 4 ∨ q = 5 by omega) with rfl | rfl | rfl | rfl | rfl | rfl <;> omega)
    rw [HT.out] at hbad
    cases hbad
    clear hok hno hr HT
    go_wp2_with fail
    go_ret2
    exact ⟨rfl, hb1.alloc hb1.size _⟩
  · replace hok := hok rfl
    obtain ⟨e0, p0⟩ := hok 0 (by omega)
    obtain ⟨e1, p1⟩ := hok 1 (by omega)
    obtain ⟨e2, p2⟩ := hok 2 (by omega)
    obtain ⟨e3, p3⟩ := hok 3 (by omega)
    obtain ⟨e4, p4⟩ := hok 4 (by omega)
    obtain ⟨e5, p5⟩ := hok 5 (by omega)
    have s2 := rd_small l 2
    have s3 := rd_small l 3
    have s4 := rd_small l 4
    have s5 := rd_small l 5
    rw [← e2] at s2
    rw [← e3] at s3
    rw [← e4] at s4
    rw [← e5] at s5
    clear hok hno
    generalize g 0 = b0 at *
    generalize g 1 = b1 at *
    generalize g 2 = b2 at *
    generalize g 3 = b3 at *
    generalize g 4 = b4 at *
    generalize g 5 = b5 at *
    obtain ⟨w2, hw2⟩ : ∃ w2, w1.alloc (.cells #[.int .i64 b0, .int .i64 b1, .int .i64 b2, .int .i64 b3, .int .i64 b4, .int .i64 b5] 154) = w2 := ⟨_, rfl⟩
    have hB2 : Below w.heap.size w w2 := by rw [← hw2]; exact hb1.alloc hb1.size _
    have hz2 : w2.heap.size = w1.heap.size + 1 := by rw [← hw2]; simp
    have K : ∀ W, Below w2.heap.size w2 W → _ := fun W hb => cell6 (w1 := w1) (W := W) (b0 := b0) (b1 := b1) (b2 := b2) (b3 := b3) (b4 := b4) (b5 := b5) (by rw [hw2, ← hz2]; exact hb)
    have CD := cDaysI b0 b1 w2 (HL.out.below hB2).1
    have HW2 : Hid (w1.alloc (.cells #[.int .i64 b0, .int .i64 b1, .int .i64 b2, .int .i64 b3, .int .i64 b4, .int .i64 b5] 154) = w2) := hw2
    by_cases hin : (2000 ≤ b0 ∧ b0 ≤ 2099) ∧ (1 ≤ b1 ∧ b1 ≤ 12)
    · obtain ⟨k, hk0⟩ : ∃ k : Nat, b0 = (2000 + k : Nat) := ⟨b0.toNat - 2000, by omega⟩
      obtain ⟨m, hm0⟩ : ∃ m : Nat, b1 = m := ⟨b1.toNat, by omega⟩
      have hk : k < 100 := by omega
      have hm1 : 1 ≤ m := by omega
      have hm2 : m ≤ 12 := by omega
      have hcand := timeOf_cand (l := l) hk (by rw [← e0, hk0]; omega) (by rw [← e1, hm0]) e2.symm e3.symm e4.symm e5.symm (by rw [← Hl.out, ← t_sz]; exact HU.out)
      unfold cand at hcand
      rw [HT.out] at hcand
      have CA := fun W hM => cAhead k m W hk hm1 hm2 hM
      rw [← hk0, ← hm0] at CA
      rw [hk0, hm0, daysIn_in k m hk hm1 hm2, ← hk0, ← hm0] at CD
      have hD1 : 28 ≤ dm (lp k) m := (dm_pos _ _ hm1 hm2).1
      have hSb : yb k + mb (lp k) m ≤ 40000 := by
        have h1 := mb_lt_13 (lp k) m hm1 hm2
        have h2 : yb k ≤ 36525 := by unfold yb; omega
        have h3 : lp k ≤ 1 := by unfold lp; split <;> omega
        omega
      generalize dm (lp k) m = D at *
      generalize yb k + mb (lp k) m = S at *
      obtain ⟨c, hc⟩ : ∃ c : Int, ((S : Int) + b2 - 1) * 86400 + b3 * 3600 + b4 * 60 + b5 = c := ⟨_, rfl⟩
      rw [hc] at hcand
      have r1 : IntKind.i64.wrap ((S : Int) + b2) = (S : Int) + b2 := IntWalk.i64_in _ (by omega)
      have r2 : IntKind.i64.wrap ((S : Int) + b2 - 1) = (S : Int) + b2 - 1 := IntWalk.i64_in _ (by omega)
      obtain ⟨ds, hds⟩ : ∃ ds : Int, (S : Int) + b2 - 1 = ds := ⟨_, rfl⟩
      rw [hds] at r2 hc
      have hds1 : -1 ≤ ds := by omega
      have hds2 : ds ≤ 60000 := by omega
      have r3 : IntKind.i64.wrap (ds * 86400) = ds * 86400 := IntWalk.i64_in _ (by omega)
      have r4 : IntKind.i64.wrap (b3 * 3600) = b3 * 3600 := IntWalk.i64_in _ (by omega)
      have r5 : IntKind.i64.wrap (ds * 86400 + b3 * 3600) = ds * 86400 + b3 * 3600 := IntWalk.i64_in _ (by omega)
      have r6 : IntKind.i64.wrap (b4 * 60) = b4 * 60 := IntWalk.i64_in _ (by omega)
      have r7 : IntKind.i64.wrap (ds * 86400 + b3 * 3600 + b4 * 60) = ds * 86400 + b3 * 3600 + b4 * 60 := IntWalk.i64_in _ (by omega)
      have r8 : IntKind.i64.wrap (ds * 86400 + b3 * 3600 + b4 * 60 + b5) = ds * 86400 + b3 * 3600 + b4 * 60 + b5 := IntWalk.i64_in _ (by omega)
      have hDi : ((D : Int) == 0) = false := by rw [beq_eq_false_iff_ne]; omega
      have HB2 : Hid (Below w.heap.size w w2) := hB2
      have HK : Hid (∀ W, Below w2.heap.size w2 W → _) := K
      have HCd : Hid ((T1, T2) = if textOf c = l then (c, true) else (0, false)) := hcand
      have HC : Hid (ds * 86400 + b3 * 3600 + b4 * 60 + b5 = c) := hc
      clear hw2 hz2 K hin e0 e1 e2 e3 e4 e5 p0 p1 hcand HT hB2 hc hk0 hm0 hk hm1 hm2 hSb hD1
      go_wp2_with fail
      rw [HW2.out]
      refine CD.mono ?_
      rintro e w3 ⟨rfl, hb3⟩
      have HB3 : Hid (Below w2.heap.size w2 w3) := hb3
      have hM3 : Mon w3 := ((HL.out.below HB2.out).1).below hb3
      have HM3 : Hid (Mon w3.drew) := hM3.below ((Below.refl _ _).drew)
      obtain ⟨k0, k1, k2, k3, k4, k5⟩ := HK.out w3 hb3
      clear hb3 hM3 CD
      go_wp2_with fail
      go_region_with (go_at_call 148; refine (CA _ HM3.out).mono ?_; rintro e w4 ⟨rfl, hb4⟩; have hb24 : Below w2.heap.size w2 w4 := ((HB3.out).drew).trans (hb4.mono HB3.out.size); obtain ⟨j0, j1, j2, j3, j4, j5⟩ := HK.out w4 hb24; have HB24 : Hid (Below w2.heap.size w2 w4) := hb24; clear hb4 hb24)
      all_goals
        clear CA r1 hds1 hds2
        have CT := cTextI c w4 ((HL.out.below HB2.out).below HB24.out)
        have hBw := HB2.out.trans (HB24.out.mono HB2.out.size)
        have hcd := HCd.out
        rw [← HC.out] at CT
        by_cases hcc : textOf c = l
        · rw [if_pos hcc, ← HC.out] at hcd
          rw [HC.out] at CT
          rw [hcc, ← Hl.out] at CT
          rw [← HC.out] at CT
          cases hcd
          go_wp2_with fail
          refine CT.mono ?_
          rintro e w5 ⟨rfl, hb5⟩
          go_wp2_with fail
          go_ret2
          exact ⟨rfl, hBw.trans (hb5.mono hBw.size)⟩
        · rw [if_neg hcc] at hcd
          cases hcd
          obtain ⟨X, hX⟩ : ∃ X : ByteArray, (⟨(textOf c).toArray⟩ : ByteArray) = X := ⟨_, rfl⟩
          have hne : (X.toList == u.toList) = false := by
            rw [ByteArray.toList_eq, ByteArray.toList_eq, ← hX, Hl.out]
            rw [beq_eq_false_iff_ne]
            exact hcc
          rw [HC.out, hX, ← HC.out] at CT
          clear hX
          go_wp2_with fail
          refine CT.mono ?_
          rintro e w5 ⟨rfl, hb5⟩
          go_wp2_with fail
          go_ret2
          exact ⟨rfl, hBw.trans (hb5.mono hBw.size)⟩
    · rw [show daysIn b0 b1 = 0 from if_neg hin] at CD
      have hbad := timeOf_bad (l := l) (fun h => by
        obtain ⟨⟨k, m, _, _, _, h0, h1, h2, _⟩, h3, h4, h5⟩ := h
        omega)
      rw [HT.out] at hbad
      cases hbad
      have hB2s := hB2
      clear hw2 hz2 K hin e0 e1 e2 e3 e4 e5 p0 p1 p2 p3 p4 p5 s2 s3 s4 s5 HT hB2
      go_wp2_with fail
      rw [HW2.out]
      refine CD.mono ?_
      rintro e w3 ⟨rfl, hb3⟩
      go_wp2_with fail
      go_ret2
      exact ⟨rfl, hB2s.trans (hb3.mono hB2s.size)⟩

theorem cOfI (u : ByteArray) (w : World) (hL : Laid w) :
    Calls Tryz.prog 134 #[.string u] w fun e w' => e = .returned (.tuple #[.int .i64 (timeOf u.data.toList).1, .bool (timeOf u.data.toList).2]) ∧ Below w.heap.size w w' := by
  by_cases h : u.size = 20
  · exact cOfI_20 u w h hL
  · rw [timeOf_len (by rw [← t_sz]; exact h)]
    exact cOfI_no20 u w h

end Go.Proofs.YtknpgdglabibiaaGreatDoor
