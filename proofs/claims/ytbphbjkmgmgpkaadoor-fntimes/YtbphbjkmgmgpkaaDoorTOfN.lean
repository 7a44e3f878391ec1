/- Contract of the program's six numbers of a text. -/
import Derived.Test.YtbphbjkmgmgpkaaDoorTOfB
import Derived.Laws.Strings3
namespace Go.Proofs.YtbphbjkmgmgpkaaDoor
open Go.RowKit
set_option linter.unusedVariables false
set_option linter.unusedSimpArgs false

def restB (u : ByteArray) (j : Nat) : ByteArray := u.extract (off j) u.size
def fieldB (u : ByteArray) (j : Nat) : ByteArray := u.extract (off j) (off j + wid j)

theorem off_succ (j : Nat) : off (j + 1) = off j + wid j + 1 := by
  unfold off wid
  by_cases h : j = 0
  · subst h; rfl
  · rw [if_neg h, if_neg h, if_neg (by omega)]; omega

theorem off_le (j : Nat) (h : j ≤ 6) : off j ≤ 20 := by
  unfold off
  split <;> omega

theorem wid_le (j : Nat) : wid j ≤ 4 ∧ 2 ≤ wid j := by
  unfold wid
  split <;> omega

theorem rest_size (u : ByteArray) (j : Nat) (hu : u.size = 20) (h : j ≤ 6) : (restB u j).size = 20 - off j := by
  unfold restB
  rw [ByteArray.size_extract, hu]
  omega

theorem extract_list (u : ByteArray) (a b : Nat) : (u.extract a b).data.toList = (u.data.toList.drop a).take (b - a) := by
  rw [ByteArray.data_extract, Array.toList_extract, List.extract_eq_take_drop]

theorem field_list (u : ByteArray) (j : Nat) : (fieldB u j).data.toList = fieldL u.data.toList j := by
  unfold fieldB fieldL
  rw [extract_list]
  congr 1
  omega

theorem field_size (u : ByteArray) (j : Nat) : (fieldB u j).size ≤ 15 := by
  rw [sz, field_list]
  unfold fieldL
  have := (wid_le j).1
  simp
  omega

theorem ext_list {a b : ByteArray} (h : a.data.toList = b.data.toList) : a = b := by
  apply ByteArray.ext
  apply Array.toList_inj.1
  exact h

theorem slice_lo (u : ByteArray) (j : Nat) (hu : u.size = 20) (h : j < 6) (W : World) :
    (Instr.slice 9 (.string (restB u j)) none (some (.int .i64 (wid j : Int))) none).run Tryd.prog W = .ok (.string (fieldB u j)) W := by
  have hs := rest_size u j hu (by omega)
  have ho := off_le (j + 1) (by omega)
  rw [off_succ] at ho
  rw [run_slice_string_to_if W 9 (restB u j) .i64 (wid j : Int) Tryd.underlying9]
  rw [if_pos (by rw [hs]; omega)]
  congr 2
  apply ext_list
  rw [field_list]
  unfold restB fieldL
  simp only [Int.toNat_natCast]
  rw [extract_list, extract_list, hu, List.drop_zero, Nat.sub_zero, List.take_take, Nat.min_eq_left (by omega)]

theorem slice_hi (u : ByteArray) (j : Nat) (hu : u.size = 20) (h : j < 6) (W : World) :
    (Instr.slice 9 (.string (restB u j)) (some (.int .i64 ((wid j : Int) + 1))) none none).run Tryd.prog W = .ok (.string (restB u (j + 1))) W := by
  have hs := rest_size u j hu (by omega)
  have ho := off_le (j + 1) (by omega)
  have hoo := off_succ j
  rw [off_succ] at ho
  rw [run_slice_string_from_if W 9 (restB u j) .i64 ((wid j : Int) + 1) Tryd.underlying9]
  rw [if_pos (by rw [hs]; omega)]
  congr 2
  apply ext_list
  have e : ((wid j : Int) + 1).toNat = wid j + 1 := by omega
  rw [hs, e]
  unfold restB
  rw [extract_list, extract_list, extract_list, hu, hoo]
  rw [List.drop_take, List.drop_drop, List.take_take]
  congr 1
  all_goals first | omega | (congr 1; omega)

/-- The numbers when j of them have been read. -/
def gN (l : List UInt8) (j q : Nat) : Int := if q < j then rdI (fieldL l q) else 0

def cellsN (g : Nat → Int) : Array Value := #[.int .i64 (g 0), .int .i64 (g 1), .int .i64 (g 2), .int .i64 (g 3), .int .i64 (g 4), .int .i64 (g 5)]

theorem cells_setL (l : List UInt8) (j : Nat) (h : j < 6) : ([Value.int .i64 (gN l j 0), .int .i64 (gN l j 1), .int .i64 (gN l j 2), .int .i64 (gN l j 3), .int .i64 (gN l j 4), .int .i64 (gN l j 5)].set j (.int .i64 (rdI (fieldL l j)))).toArray = cellsN (gN l (j + 1)) := by
  rcases (show j = 0 ∨ j = 1 ∨ j = 2 ∨ j = 3 ∨ j = 4 ∨ j = 5 by omega) with rfl | rfl | rfl | rfl | rfl | rfl <;> rfl

theorem rd_all {l : List UInt8} (h : l.all isDig = true) : (if l.all isDig = true then (valD l : Int) else 0) = rdI l := by
  unfold rdI
  rw [if_pos h, if_pos h]

theorem res_row (w : World) (G G' : Nat → Int) (tmps : Array Value) (b : Bool) (h2 : tmps.getD 2 undef = .pointer (some ⟨w.heap.size, 0, none⟩)) (h3 : tmps.getD 3 undef = .bool b) :
    (results Tryd.f26 tmps).run Tryd.prog ((w.alloc (.cells (cellsN G) 46)).alloc (.cells (cellsN G') 46)) = .ok (.tuple #[.agg (cellsN G), .bool b]) ((w.alloc (.cells (cellsN G) 46)).alloc (.cells (cellsN G') 46)) := by
  have hh : ((w.alloc (.cells (cellsN G) 46)).alloc (.cells (cellsN G') 46)).heap[w.heap.size]? = some (.cells (cellsN G) 46 (0, 0)) := by
    rw [Below.heap_alloc _ _ _ (by simp)]
    exact heap_alloc_last w _
  have hl := run_loadVar_row (P := Tryd.prog) _ w.heap.size 46 46 (cellsN G) (0, 0) _ hh Tryd.underlying46 rfl (by kernel_rfl)
  have h2' : tmps[2]?.getD undef = .pointer (some ⟨w.heap.size, 0, none⟩) := by simpa using h2
  have h3' : tmps[3]?.getD undef = .bool b := by simpa using h3
  simp [results, Tryd.results26, h2', h3', asAddr, hl]

set_option maxHeartbeats 4000000 in
set_option maxRecDepth 4000 in
theorem cNumbers (u : ByteArray) (w : World) (hu : u.size = 20) :
    Calls Tryd.prog 26 #[.string u] w fun e w' => ∃ (g : Nat → Int) (ok : Bool), e = .returned (.tuple #[.agg (cellsN g), .bool ok]) ∧ (ok = true → ∀ q, q < 6 → g q = rdI (fieldL u.data.toList q) ∧ 0 ≤ g q) ∧ (ok = false → ∃ q, q < 6 ∧ rdI (fieldL u.data.toList q) = -1) ∧ Below w.heap.size w w' := by
  have HU : Hid (u.size = 20) := hu
  have HU2 : Hid (u = restB u 0) := by
    show u = restB u 0
    apply ext_list
    unfold restB
    rw [extract_list]
    show _ = (u.data.toList.drop 0).take (u.size - 0)
    rw [List.drop_zero, Nat.sub_zero, sz, List.take_length]
  have hul : (u.size : Int) = 20 := by omega
  go_enter Tryd.func26, Tryd.ntmps26
  go_wp2_with fail
  go_loopw [0, 5, 13] (fun s wd i wr => ∃ j : Nat, i = .int .i64 (j : Int) ∧ j ≤ 6 ∧ s = .string (restB u j) ∧ wd = .int .i64 (wid j : Int) ∧ (∀ q, q < j → 0 ≤ rdI (fieldL u.data.toList q)) ∧ wr = (w.alloc (.cells (cellsN fun _ => 0) 46)).alloc (.cells (cellsN (gN u.data.toList j)) 46)) (fun _ _ i _ => 6 - (intOf i).toNat)
  case atStart => exact ⟨0, rfl, by omega, congrArg Value.string HU2.out, rfl, fun q hq => absurd hq (Nat.not_lt_zero q), rfl⟩
  case round =>
    obtain ⟨j, rfl, hj, rfl, rfl, hall, rfl⟩ := hrel
    have HAll : Hid (∀ q, q < j → 0 ≤ rdI (fieldL u.data.toList q)) := hall
    clear hall hul hu
    by_cases hlt : j < 6
    · have slo := slice_lo u j HU.out hlt
      have shi := slice_hi u j HU.out hlt
      have C := fun w => cDigitsI (fieldB u j) w (field_size u j)
      rw [field_list] at C
      have hwd := wid_le j
      have HW1 : Hid (wid (j + 1) = 2) := by show wid (j + 1) = 2; unfold wid; rw [if_neg (by omega)]
      have hset := cells_setL u.data.toList j hlt
      obtain ⟨r, hr⟩ : ∃ r, restB u j = r := ⟨_, rfl⟩
      obtain ⟨r', hr'⟩ : ∃ r', restB u (j + 1) = r' := ⟨_, rfl⟩
      obtain ⟨f, hf⟩ : ∃ f, fieldB u j = f := ⟨_, rfl⟩
      obtain ⟨wd, hwde⟩ : ∃ wd, wid j = wd := ⟨_, rfl⟩
      have HR' : Hid (restB u (j + 1) = r') := hr'
      rw [hr, hf, hwde] at slo
      rw [hr, hr', hwde] at shi
      rw [hf] at C
      rw [hwde] at hwd
      rw [hr, hwde]
      obtain ⟨hwd1, hwd2⟩ := hwd
      clear hr hr' hf hwde
      by_cases hd : (fieldL u.data.toList j).all isDig = true
      · rw [rd_all hd, hd] at C
        have HP : Hid (0 ≤ rdI (fieldL u.data.toList j)) := by
          show 0 ≤ rdI (fieldL u.data.toList j)
          unfold rdI
          rw [if_pos hd]
          omega
        obtain ⟨v, hv⟩ : ∃ v, rdI (fieldL u.data.toList j) = v := ⟨_, rfl⟩
        rw [hv] at C hset
        have HV : Hid (rdI (fieldL u.data.toList j) = v) := hv
        have HS : Hid (_ = cellsN (gN u.data.toList (j + 1))) := hset
        obtain ⟨G, hG⟩ : ∃ G, gN u.data.toList j = G := ⟨_, rfl⟩
        rw [hG] at HS ⊢
        clear hset hv hd hG
        unfold cellsN at HS ⊢
        go_wp2_with fail
        refine (C _).mono ?_
        rintro e w' ⟨rfl, rfl⟩
        go_wp2_with fail
        go_roundw
        case rel =>
          refine ⟨j + 1, by go_num, by omega, by rw [HR'.out], by rw [HW1.out]; rfl, ?_, ?_⟩
          · intro q hq
            rcases (show q < j ∨ q = j by omega) with h | h
            · exact HAll.out q h
            · rw [h]; exact HP.out
          · exact congrArg (fun c => (w.alloc (.cells (cellsN fun _ => 0) 46)).alloc (.cells c 46)) HS.out
        case measure => simp [intOf]; omega
      · have hd' : (fieldL u.data.toList j).all isDig = false := by simpa using hd
        have HP : Hid (rdI (fieldL u.data.toList j) = -1) := by
          show rdI (fieldL u.data.toList j) = -1
          unfold rdI
          rw [if_neg hd]
        rw [if_neg hd, hd'] at C
        obtain ⟨G, hG⟩ : ∃ G, gN u.data.toList j = G := ⟨_, rfl⟩
        rw [hG]
        clear hset hd hd' hG shi
        unfold cellsN
        go_wp2_with fail
        refine (C _).mono ?_
        rintro e w' ⟨rfl, rfl⟩
        go_wp2_with fail
        refine bodyPost_ret (v := .tuple #[.agg (cellsN G), .bool false]) ?_ rfl ⟨G, false, rfl, fun h => by simp at h, fun _ => ⟨j, hlt, HP.out⟩, ?_⟩
        · exact res_row w G G _ _ rfl rfl
        · exact ((Below.refl _ _).alloc (Nat.le_refl _) _).alloc (by simp) _
    · have hje : j = 6 := by omega
      subst hje
      obtain ⟨G, hG⟩ : ∃ G, gN u.data.toList 6 = G := ⟨_, rfl⟩
      have HG : Hid (∀ q, q < 6 → G q = rdI (fieldL u.data.toList q) ∧ 0 ≤ G q) := by
        show ∀ q, q < 6 → G q = rdI (fieldL u.data.toList q) ∧ 0 ≤ G q
        intro q hq
        have e : G q = rdI (fieldL u.data.toList q) := by rw [← hG]; unfold gN; rw [if_pos hq]
        exact ⟨e, by rw [e]; exact HAll.out q hq⟩
      rw [hG]
      clear hG
      unfold cellsN
      go_wp2_with fail
      refine bodyPost_ret (v := .tuple #[.agg (cellsN G), .bool true]) ?_ rfl ⟨G, true, rfl, fun _ => HG.out, fun h => by simp at h, ?_⟩
      · exact res_row w G G _ _ rfl rfl
      · exact ((Below.refl _ _).alloc (Nat.le_refl _) _).alloc (by simp) _

end Go.Proofs.YtbphbjkmgmgpkaaDoor
