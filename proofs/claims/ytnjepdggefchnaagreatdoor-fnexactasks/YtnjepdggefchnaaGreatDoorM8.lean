/- The library contracts that the proofs lean on, laid at this program: a field a fact of the program, each contract one application. Contracts of the program's byId, slices.BinarySearchFunc over it, rowAt, rowOk, rowsOk, TableOk, Holds. -/
import Derived.Test.YtnjepdggefchnaaGreatDoorProg
import Derived.Test.YtnjepdggefchnaaGreatDoorM7
import Derived.Shelf.Small.Strs
namespace Go.Proofs
open Go.Shelf
def Tryz.lays106_ren : Go.Shelf.Ren := ⟨fun | 106 => 102 | 213 => 105 | 265 => 107 | n => n, fun | 9 => 9 | 3 => 3 | n => n, fun | n => n⟩
theorem Tryz.lays106 : Go.Proofs.Lays.n106 Tryz.prog Tryz.lays106_ren := {
  mixed := by kernel_rfl
  f106 := Tryz.func102.trans (congrArg some (by kernel_rfl))
  f213 := Tryz.func105.trans (congrArg some (by kernel_rfl))
  f265 := Tryz.func107.trans (congrArg some (by kernel_rfl))
  t3 := Tryz.underlying3
  a3 := Tryz.isAgg3
  z3 := Tryz.sizeOf3
  v3 := Tryz.zeroValue3
  t9 := Tryz.underlying9
  a9 := Tryz.isAgg9
  z9 := Tryz.sizeOf9
  v9 := Tryz.zeroValue9 }
open Go.RowKit in
theorem Tryz.strings_Compare (a b : ByteArray) (w : World) :
    Calls Tryz.prog 102 #[.string a, .string b] w fun e w' => e = .returned (.int .i64 (Lib.compareBytes a.data.toList b.data.toList)) ∧ w' = w := Any.strings_Compare Tryz.lays106 a b w
end Go.Proofs

namespace Go.Proofs.YtnjepdggefchnaaGreatDoor
open Go.RowKit
set_option linter.unusedVariables false
set_option linter.unusedSimpArgs false

/-- Less, alike, greater. -/
def cmpU (x y : ByteArray) : Int := Lib.compareBytes x.data.toList y.data.toList

theorem cmpL_is : ∀ a b : List UInt8, Lib.compareBytes a b = if Op.bytesLess a b = true then -1 else if a = b then 0 else 1
  | [], [] => by simp [Lib.compareBytes, Op.bytesLess]
  | [], _ :: _ => by simp [Lib.compareBytes, Op.bytesLess]
  | _ :: _, [] => by simp [Lib.compareBytes, Op.bytesLess]
  | a :: s, b :: t => by
    unfold Lib.compareBytes Op.bytesLess
    rw [cmpL_is s t]
    by_cases h1 : a < b
    · simp [h1]
    · by_cases h2 : b < a
      · have hne : ¬ a = b := fun e => by subst e; exact h1 h2
        simp [h1, h2, hne]
      · have he : a = b := UInt8.le_antisymm (UInt8.not_lt.1 h2) (UInt8.not_lt.1 h1)
        subst he
        simp [h1]

theorem cmpU_lt {x y : ByteArray} (h : u_ltB x y = true) : cmpU x y = -1 := by
  unfold u_ltB at h
  rw [ByteArray.toList_eq, ByteArray.toList_eq] at h
  unfold cmpU
  rw [cmpL_is, if_pos h]

theorem cmpU_self (x : ByteArray) : cmpU x x = 0 := by
  have h := u_ltB_irr x
  unfold u_ltB at h
  rw [ByteArray.toList_eq] at h
  unfold cmpU
  rw [cmpL_is, if_neg (by rw [h]; exact Bool.false_ne_true), if_pos rfl]

theorem cmpU_gt {x y : ByteArray} (h : u_ltB x y = false) (hne : ¬ x = y) : cmpU x y = 1 := by
  unfold u_ltB at h
  rw [ByteArray.toList_eq, ByteArray.toList_eq] at h
  unfold cmpU
  rw [cmpL_is, if_neg (by rw [h]; exact Bool.false_ne_true), if_neg (fun e => hne (ByteArray.ext (Array.toList_inj.1 e)))]

theorem cmpU_ge {x y : ByteArray} (h : u_ltB x y = false) : ¬ cmpU x y < 0 := by
  by_cases e : x = y
  · subst e; rw [cmpU_self]; decide
  · rw [cmpU_gt h e]; decide

theorem cById (x y : ByteArray) (u v : Int) (w : World) :
    Calls Tryz.prog 96 #[.agg #[.string x, .int .i64 u], .agg #[.string y, .int .i64 v]] w fun e w' => e = .returned (.int .i64 (cmpU x y)) ∧ Below w.heap.size w w' := by
  have C := hid (fun wx => Tryz.strings_Compare x y wx)
  unfold cmpU
  generalize Lib.compareBytes x.data.toList y.data.toList = V at *
  go_enter Tryz.func96, Tryz.ntmps96
  go_wp2_with fail
  refine (C.out _).mono ?_
  rintro e w1 ⟨rfl, rfl⟩
  go_wp2_with fail
  go_ret
  exact ⟨rfl, ((Below.refl w.heap.size w).alloc (Nat.le_refl _) _).alloc (by simp) _⟩

set_option maxRecDepth 8000 in
set_option maxHeartbeats 4000000 in
theorem cSearch (a : Option Addr) (cap : Nat) (l : List Ro) (id : ByteArray) (w : World) (hR : RoRow w a l) (hP : RowsP l l.length) (hn : l.length ≤ 1048576) :
    Calls Tryz.prog 95 #[.slice a l.length cap, .agg #[.string id, .int .i64 0], .func (.func 96) #[] #[]] w fun e w' => e = .returned (.tuple #[.int .i64 ((findR l id : Nat) : Int), .bool (isR l id)]) ∧ Below w.heap.size w w' := by
  obtain ⟨K, hK⟩ : ∃ K, findR l id = K := ⟨_, rfl⟩
  obtain ⟨I, hI⟩ : ∃ I, isR l id = I := ⟨_, rfl⟩
  have HK := hid hK
  have HI := hid hI
  rw [hK, hI]
  have HR := hid hR
  have HRise := hid (fun (j i : Nat) (hi : i < l.length) (hj : j < i) => rise hP hi hj hi)
  clear hR hP hK hI
  obtain ⟨n, hnn⟩ : ∃ n, l.length = n := ⟨_, rfl⟩
  have HN := hid hnn
  rw [hnn] at hn ⊢
  clear hnn
  have HX := hid (heap_alloc_new w (.cells #[.string id, .int .i64 0] 78))
  have HB0 := hid ((Below.refl w.heap.size w).alloc (Nat.le_refl _) (.cells #[.string id, .int .i64 0] 78))
  go_enter Tryz.func95, Tryz.ntmps95
  go_wp2_with fail
  obtain ⟨w0, hw0⟩ : ∃ w0, w.alloc (.cells #[.string id, .int .i64 0] 78) = w0 := ⟨_, rfl⟩
  rw [hw0] at HX HB0 ⊢
  clear hw0
  obtain ⟨B, hB⟩ : ∃ B, w.heap.size = B := ⟨_, rfl⟩
  rw [hB] at HX ⊢
  go_loopw [9, 10] (fun x y wr => ∃ lo hi : Nat, x = .int .i64 (lo : Int) ∧ y = .int .i64 (hi : Int) ∧ lo ≤ hi ∧ hi ≤ n ∧ Hid ((∀ q (h : q < l.length), q < lo → u_ltB l[q].id id = true) ∧ (∀ q (h : q < l.length), hi ≤ q → u_ltB l[q].id id = false)) ∧ Hid (Below w.heap.size w wr) ∧ Hid (wr.heap[B]? = some (.cells #[.string id, .int .i64 0] 78 (0, 0)))) (fun x y _ => (intOf y).toNat - (intOf x).toNat)
  case atStart => exact ⟨0, n, rfl, rfl, Nat.zero_le _, Nat.le_refl _, ⟨fun q _ h => absurd h (Nat.not_lt_zero _), fun q h hq => by rw [HN.out] at h; omega⟩, HB0.out, HX.out⟩
  case round =>
    clear HX HB0
    obtain ⟨lo, hi, rfl, rfl, hlh, hin, HP, HB, HX⟩ := hrel
    obtain ⟨k0, k1⟩ := u_box2c HX.out
    have hBl := lt_of_heap HX.out
    have X0 := fun p : BW wr => (p.h.cell (p := ⟨B, 0, none⟩) hBl).trans k0
    have X1 := fun p : BW wr => (p.h.cell (p := ⟨B, 1, none⟩) hBl).trans k1
    have HSTEP : Hid (∀ wq, Below wr.heap.size wr wq → wq.heap[B]? = some (.cells #[.string id, .int .i64 0] 78 (0, 0)) ∧ Below w.heap.size w wq) := fun wq hq => ⟨u_blk_below HX.out hq, bb HB.out hq⟩
    have HNB := hid (bw_any wr)
    by_cases hlt : lo < hi
    · have hltI : (lo : Int) < (hi : Int) := by omega
      obtain ⟨m, hm⟩ : ∃ m : Nat, (lo + hi) / 2 = m := ⟨_, rfl⟩
      have hmI : ((lo : Int) + (hi : Int)) / 2 = (m : Int) := by omega
      have hmn : m < n := by omega
      have hmnI : (m : Int) < (n : Int) := by omega
      have hms : m < l.length := by rw [HN.out]; exact hmn
      obtain ⟨b, o, rfl, hb, c1, c2⟩ := HR.out.below HB.out m hms
      obtain ⟨d1, d2⟩ := pair_bw hb c1 c2
      have C := hid (fun wx => cById l[m].id id l[m].til 0 wx)
      cases hl : u_ltB l[m].id id with
      | true =>
        have hc := cmpU_lt hl
        have HP1 := hid (show (∀ q (h : q < l.length), q < m + 1 → u_ltB l[q].id id = true) ∧ (∀ q (h : q < l.length), hi ≤ q → u_ltB l[q].id id = false) from ⟨fun q h hq => by
          rcases Nat.lt_or_eq_of_le (Nat.le_of_lt_succ hq) with h' | h'
          · exact u_ltB_trans (HRise.out q m hms h') hl
          · subst h'; exact hl, HP.out.2⟩)
        rw [hc] at C
        clear HP c1 c2 hl hc
        generalize l[m].id = x at *
        generalize l[m].til = y at *
        go_wp2_with fail
        haveI := HNB.out
        refine wp_region_below (by kernel_rfl) (by kernel_rfl) (Below.refl wr.heap.size wr) ?_
        repeat (go_big_quiet_step ((go_at_call 96; exact calls_bw _ (C.out _))))
        refine wpQuiet_nil ?_
        intro wq hw'
        obtain ⟨⟨wz, hwq⟩, hw''⟩ := hw'
        subst hw''
        have HS := hid (HSTEP.out wq hwq)
        clear C d1 d2 X0 X1 HSTEP HNB k0 k1 HX HB
        go_wp2_with fail
        go_roundw
        case rel => exact ⟨m + 1, hi, by go_num, rfl, by omega, hin, HP1.out, HS.out.2, HS.out.1⟩
        case measure => simp [intOf]; omega
      | false =>
        have HP1 := hid (show (∀ q (h : q < l.length), q < lo → u_ltB l[q].id id = true) ∧ (∀ q (h : q < l.length), m ≤ q → u_ltB l[q].id id = false) from ⟨HP.out.1, fun q h hq => by
          rcases Nat.lt_or_eq_of_le hq with h' | h'
          · cases e : u_ltB l[q].id id with
            | false => rfl
            | true =>
              have := u_ltB_trans (HRise.out m q h h') e
              rw [hl] at this
              cases this
          · subst h'; exact hl⟩)
        have hc := cmpU_ge hl
        clear HP c1 c2 hl
        generalize l[m].id = x at *
        generalize l[m].til = y at *
        generalize cmpU x id = V at *
        have hcd : decide (V < 0) = false := decide_eq_false hc
        go_wp2_with fail
        haveI := HNB.out
        refine wp_region_below (by kernel_rfl) (by kernel_rfl) (Below.refl wr.heap.size wr) ?_
        repeat (go_big_quiet_step ((go_at_call 96; exact calls_bw _ (C.out _))))
        refine wpQuiet_nil ?_
        intro wq hw'
        obtain ⟨⟨wz, hwq⟩, hw''⟩ := hw'
        subst hw''
        have HS := hid (HSTEP.out wq hwq)
        clear C d1 d2 X0 X1 HSTEP HNB k0 k1 HX HB
        go_wp2_with fail
        go_roundw
        case rel => exact ⟨lo, m, rfl, rfl, by omega, by omega, HP1.out, HS.out.2, HS.out.1⟩
        case measure => simp [intOf]; omega
    · obtain rfl : lo = hi := by omega
      have hnlt : ¬ (lo : Int) < (lo : Int) := by omega
      by_cases hln : lo < n
      · have hls : lo < l.length := by rw [HN.out]; exact hln
        have hlnI : (lo : Int) < (n : Int) := by omega
        have hdt : decide ((lo : Int) < (n : Int)) = true := decide_eq_true hlnI
        obtain ⟨b, o, rfl, hb, c1, c2⟩ := HR.out.below HB.out lo hls
        obtain ⟨d1, d2⟩ := pair_bw hb c1 c2
        have C := hid (fun wx => cById l[lo].id id l[lo].til 0 wx)
        have hl := HP.out.2 lo hls (Nat.le_refl _)
        have hk := findR_at (l := l) (id := id) (Nat.le_of_lt hls) (fun j hj => HP.out.1 j (by omega) hj) (fun _ => hl)
        have HKE := hid (show K = lo by rw [← HK.out]; exact hk)
        have hI : isR l id = decide (cmpU l[lo].id id = 0) := by
          unfold isR
          simp only [hk]
          rw [dif_pos hls]
          by_cases e : l[lo].id = id
          · rw [decide_eq_true e, e, cmpU_self]; rfl
          · rw [decide_eq_false e, cmpU_gt hl e]; rfl
        rw [HI.out] at hI
        have HIE := hid hI
        clear HP c1 c2 hl hk hI
        generalize l[lo].id = x at *
        generalize l[lo].til = y at *
        generalize cmpU x id = V at *
        have hq : (V == 0) = decide (V = 0) := by
          by_cases e : V = 0
          · subst e; rfl
          · rw [decide_eq_false e]; simpa using e
        generalize decide (V = 0) = Q at *
        go_wp2_with fail
        haveI := HNB.out
        refine wp_region_below (by kernel_rfl) (by kernel_rfl) (Below.refl wr.heap.size wr) ?_
        repeat (go_big_quiet_step ((go_at_call 96; exact calls_bw _ (C.out _))))
        refine wpQuiet_nil ?_
        intro wq hw'
        obtain ⟨⟨wz, hwq⟩, hw''⟩ := hw'
        subst hw''
        have HS := hid (HSTEP.out wq hwq)
        go_wp2_with fail
        go_ret2
        exact ⟨by rw [HKE.out, HIE.out]; rfl, hB ▸ HS.out.2⟩
      · obtain rfl : lo = n := by omega
        have hk := findR_at (l := l) (id := id) (k := lo) (by rw [HN.out]; exact Nat.le_refl _) (fun j hj => HP.out.1 j (by rw [HN.out]; exact hj) hj) (fun q => by rw [HN.out] at q; exact absurd q (Nat.lt_irrefl _))
        have HKE := hid (show K = lo by rw [← HK.out]; exact hk)
        have HIE := hid (show I = false by rw [← HI.out]; exact isR_len (by rw [hk, HN.out]))
        have hdf : decide ((lo : Int) < (lo : Int)) = false := by simp
        clear HP hk
        go_wp2_with fail
        haveI := HNB.out
        refine wp_region_below (by kernel_rfl) (by kernel_rfl) (Below.refl wr.heap.size wr) ?_
        repeat (go_big_quiet_step ((fail)))
        refine wpQuiet_nil ?_
        intro wq hw'
        obtain ⟨⟨wz, hwq⟩, hw''⟩ := hw'
        subst hw''
        have HS := hid (HSTEP.out wq hwq)
        go_wp2_with fail
        go_ret2
        exact ⟨by rw [HKE.out, HIE.out]; rfl, hB ▸ HS.out.2⟩

end Go.Proofs.YtnjepdggefchnaaGreatDoor
