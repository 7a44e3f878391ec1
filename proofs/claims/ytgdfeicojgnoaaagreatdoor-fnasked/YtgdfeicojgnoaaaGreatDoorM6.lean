/- Contracts of the program's byId, slices.BinarySearchFunc over it, rowAt, rowOk, rowsOk, TableOk, Holds. Contracts of the program's rowAt, rowOk, rowsOk, mostOk, TableOk, Holds. Contracts of the program's handAt, handsOk, GateOk. -/
import Derived.Test.YtgdfeicojgnoaaaGreatDoorM5
import Derived.Test.YtgdfeicojgnoaaaGreatDoorM3
import Derived.Deep.RegionHeld3
namespace Go.Proofs.YtgdfeicojgnoaaaGreatDoor
open Go.RowKit
set_option linter.unusedVariables false
set_option linter.unusedSimpArgs false

/-- Less, alike, greater. -/
def cmpU (x y : ByteArray) : Int := Lib.compareBytes x.data.toList y.data.toList

theorem cmpL_is : ∀ a b : List UInt8, Lib.compareBytes a b = if Op.bytesLess a b = true then -1 else if a = b then 0 else 1
  | [], [] => by simp [Lib.compareBytes, Op.bytesLess]
  | [], _ :: _ => by simp [Lib.compareBytes, Op.bytesLess]
  | _ :: _, [] => by simp [Lib.compareBytes, Op.bytesLess]
  | a :: s, b :: t => by
    unfold Lib.compareBytes Op.bytesLess
    rw [cmpL_is s t]
    by_cases h1 : a < b
    · simp [h1]
    · by_cases h2 : b < a
      · have hne : ¬ a = b := fun e => by subst e; exact h1 h2
        simp [h1, h2, hne]
      · have he : a = b := UInt8.le_antisymm (UInt8.not_lt.1 h2) (UInt8.not_lt.1 h1)
        subst he
        simp [h1]

theorem cmpU_lt {x y : ByteArray} (h : u_ltB x y = true) : cmpU x y = -1 := by
  unfold u_ltB at h
  rw [ByteArray.toList_eq, ByteArray.toList_eq] at h
  unfold cmpU
  rw [cmpL_is, if_pos h]

theorem cmpU_self (x : ByteArray) : cmpU x x = 0 := by
  have h := u_ltB_irr x
  unfold u_ltB at h
  rw [ByteArray.toList_eq] at h
  unfold cmpU
  rw [cmpL_is, if_neg (by rw [h]; exact Bool.false_ne_true), if_pos rfl]

theorem cmpU_gt {x y : ByteArray} (h : u_ltB x y = false) (hne : ¬ x = y) : cmpU x y = 1 := by
  unfold u_ltB at h
  rw [ByteArray.toList_eq, ByteArray.toList_eq] at h
  unfold cmpU
  rw [cmpL_is, if_neg (by rw [h]; exact Bool.false_ne_true), if_neg (fun e => hne (ByteArray.ext (Array.toList_inj.1 e)))]

theorem cmpU_ge {x y : ByteArray} (h : u_ltB x y = false) : ¬ cmpU x y < 0 := by
  by_cases e : x = y
  · subst e; rw [cmpU_self]; decide
  · rw [cmpU_gt h e]; decide

theorem cById (x y : ByteArray) (u v : Int) (w : World) :
    Calls Tryz.prog 78 #[.agg #[.string x, .int .i64 u], .agg #[.string y, .int .i64 v]] w fun e w' => e = .returned (.int .i64 (cmpU x y)) ∧ Below w.heap.size w w' := by
  have C := hid (fun wx => Tryz.strings_Compare x y wx)
  unfold cmpU
  generalize Lib.compareBytes x.data.toList y.data.toList = V at *
  go_enter Tryz.func78, Tryz.ntmps78
  go_wp2_with fail
  refine (C.out _).mono ?_
  rintro e w1 ⟨rfl, rfl⟩
  go_wp2_with fail
  go_ret
  exact ⟨rfl, ((Below.refl w.heap.size w).alloc (Nat.le_refl _) _).alloc (by simp) _⟩

set_option maxRecDepth 8000 in
set_option maxHeartbeats 4000000 in
theorem cSearch (a : Option Addr) (cap : Nat) (l : List Ro) (id : ByteArray) (w : World) (hR : RoRow w a l) (hP : RowsP l l.length) (hn : l.length ≤ 1048576) :
    Calls Tryz.prog 77 #[.slice a l.length cap, .agg #[.string id, .int .i64 0], .func (.func 78) #[] #[]] w fun e w' => e = .returned (.tuple #[.int .i64 ((findR l id : Nat) : Int), .bool (isR l id)]) ∧ Below w.heap.size w w' := by
  obtain ⟨K, hK⟩ : ∃ K, findR l id = K := ⟨_, rfl⟩
  obtain ⟨I, hI⟩ : ∃ I, isR l id = I := ⟨_, rfl⟩
  have HK := hid hK
  have HI := hid hI
  rw [hK, hI]
  have HR := hid hR
  have HRise := hid (fun (j i : Nat) (hi : i < l.length) (hj : j < i) => rise hP hi hj hi)
  clear hR hP hK hI
  obtain ⟨n, hnn⟩ : ∃ n, l.length = n := ⟨_, rfl⟩
  have HN := hid hnn
  rw [hnn] at hn ⊢
  clear hnn
  have HX := hid (heap_alloc_new w (.cells #[.string id, .int .i64 0] 83))
  have HB0 := hid ((Below.refl w.heap.size w).alloc (Nat.le_refl _) (.cells #[.string id, .int .i64 0] 83))
  go_enter Tryz.func77, Tryz.ntmps77
  go_wp2_with fail
  obtain ⟨w0, hw0⟩ : ∃ w0, w.alloc (.cells #[.string id, .int .i64 0] 83) = w0 := ⟨_, rfl⟩
  rw [hw0] at HX HB0 ⊢
  clear hw0
  obtain ⟨B, hB⟩ : ∃ B, w.heap.size = B := ⟨_, rfl⟩
  rw [hB] at HX ⊢
  go_loopw [9, 10] (fun x y wr => ∃ lo hi : Nat, x = .int .i64 (lo : Int) ∧ y = .int .i64 (hi : Int) ∧ lo ≤ hi ∧ hi ≤ n ∧ Hid ((∀ q (h : q < l.length), q < lo → u_ltB l[q].id id = true) ∧ (∀ q (h : q < l.length), hi ≤ q → u_ltB l[q].id id = false)) ∧ Hid (Below w.heap.size w wr) ∧ Hid (wr.heap[B]? = some (.cells #[.string id, .int .i64 0] 83 (0, 0)))) (fun x y _ => (intOf y).toNat - (intOf x).toNat)
  case atStart => exact ⟨0, n, rfl, rfl, Nat.zero_le _, Nat.le_refl _, ⟨fun q _ h => absurd h (Nat.not_lt_zero _), fun q h hq => by rw [HN.out] at h; omega⟩, HB0.out, HX.out⟩
  case round =>
    clear HX HB0
    obtain ⟨lo, hi, rfl, rfl, hlh, hin, HP, HB, HX⟩ := hrel
    obtain ⟨k0, k1⟩ := u_box2c HX.out
    have hBl := lt_of_heap HX.out
    have X0 := fun p : BW wr => (p.h.cell (p := ⟨B, 0, none⟩) hBl).trans k0
    have X1 := fun p : BW wr => (p.h.cell (p := ⟨B, 1, none⟩) hBl).trans k1
    have HSTEP : Hid (∀ wq, Below wr.heap.size wr wq → wq.heap[B]? = some (.cells #[.string id, .int .i64 0] 83 (0, 0)) ∧ Below w.heap.size w wq) := fun wq hq => ⟨u_blk_below HX.out hq, bb HB.out hq⟩
    have HNB := hid (bw_any wr)
    by_cases hlt : lo < hi
    · have hltI : (lo : Int) < (hi : Int) := by omega
      obtain ⟨m, hm⟩ : ∃ m : Nat, (lo + hi) / 2 = m := ⟨_, rfl⟩
      have hmI : ((lo : Int) + (hi : Int)) / 2 = (m : Int) := by omega
      have hmn : m < n := by omega
      have hmnI : (m : Int) < (n : Int) := by omega
      have hms : m < l.length := by rw [HN.out]; exact hmn
      obtain ⟨b, o, rfl, hb, c1, c2⟩ := HR.out.below HB.out m hms
      obtain ⟨d1, d2⟩ := pair_bw hb c1 c2
      have C := hid (fun wx => cById l[m].id id l[m].til 0 wx)
      cases hl : u_ltB l[m].id id with
      | true =>
        have hc := cmpU_lt hl
        have HP1 := hid (show (∀ q (h : q < l.length), q < m + 1 → u_ltB l[q].id id = true) ∧ (∀ q (h : q < l.length), hi ≤ q → u_ltB l[q].id id = false) from ⟨fun q h hq => by
          rcases Nat.lt_or_eq_of_le (Nat.le_of_lt_succ hq) with h' | h'
          · exact u_ltB_trans (HRise.out q m hms h') hl
          · subst h'; exact hl, HP.out.2⟩)
        rw [hc] at C
        clear HP c1 c2 hl hc
        generalize l[m].id = x at *
        generalize l[m].til = y at *
        go_wp2_with fail
        haveI := HNB.out
        refine wp_region_below (by kernel_rfl) (by kernel_rfl) (Below.refl wr.heap.size wr) ?_
        repeat (go_big_quiet_step ((go_at_call 78; exact calls_bw _ (C.out _))))
        refine wpQuiet_nil ?_
        intro wq hw'
        obtain ⟨⟨wz, hwq⟩, hw''⟩ := hw'
        subst hw''
        have HS := hid (HSTEP.out wq hwq)
        clear C d1 d2 X0 X1 HSTEP HNB k0 k1 HX HB
        go_wp2_with fail
        go_roundw
        case rel => exact ⟨m + 1, hi, by go_num, rfl, by omega, hin, HP1.out, HS.out.2, HS.out.1⟩
        case measure => simp [intOf]; omega
      | false =>
        have HP1 := hid (show (∀ q (h : q < l.length), q < lo → u_ltB l[q].id id = true) ∧ (∀ q (h : q < l.length), m ≤ q → u_ltB l[q].id id = false) from ⟨HP.out.1, fun q h hq => by
          rcases Nat.lt_or_eq_of_le hq with h' | h'
          · cases e : u_ltB l[q].id id with
            | false => rfl
            | true =>
              have := u_ltB_trans (HRise.out m q h h') e
              rw [hl] at this
              cases this
          · subst h'; exact hl⟩)
        have hc := cmpU_ge hl
        clear HP c1 c2 hl
        generalize l[m].id = x at *
        generalize l[m].til = y at *
        generalize cmpU x id = V at *
        have hcd : decide (V < 0) = false := decide_eq_false hc
        go_wp2_with fail
        haveI := HNB.out
        refine wp_region_below (by kernel_rfl) (by kernel_rfl) (Below.refl wr.heap.size wr) ?_
        repeat (go_big_quiet_step ((go_at_call 78; exact calls_bw _ (C.out _))))
        refine wpQuiet_nil ?_
        intro wq hw'
        obtain ⟨⟨wz, hwq⟩, hw''⟩ := hw'
        subst hw''
        have HS := hid (HSTEP.out wq hwq)
        clear C d1 d2 X0 X1 HSTEP HNB k0 k1 HX HB
        go_wp2_with fail
        go_roundw
        case rel => exact ⟨lo, m, rfl, rfl, by omega, by omega, HP1.out, HS.out.2, HS.out.1⟩
        case measure => simp [intOf]; omega
    · obtain rfl : lo = hi := by omega
      have hnlt : ¬ (lo : Int) < (lo : Int) := by omega
      by_cases hln : lo < n
      · have hls : lo < l.length := by rw [HN.out]; exact hln
        have hlnI : (lo : Int) < (n : Int) := by omega
        have hdt : decide ((lo : Int) < (n : Int)) = true := decide_eq_true hlnI
        obtain ⟨b, o, rfl, hb, c1, c2⟩ := HR.out.below HB.out lo hls
        obtain ⟨d1, d2⟩ := pair_bw hb c1 c2
        have C := hid (fun wx => cById l[lo].id id l[lo].til 0 wx)
        have hl := HP.out.2 lo hls (Nat.le_refl _)
        have hk := findR_at (l := l) (id := id) (Nat.le_of_lt hls) (fun j hj => HP.out.1 j (by omega) hj) (fun _ => hl)
        have HKE := hid (show K = lo by rw [← HK.out]; exact hk)
        have hI : isR l id = decide (cmpU l[lo].id id = 0) := by
          unfold isR
          simp only [hk]
          rw [dif_pos hls]
          by_cases e : l[lo].id = id
          · rw [decide_eq_true e, e, cmpU_self]; rfl
          · rw [decide_eq_false e, cmpU_gt hl e]; rfl
        rw [HI.out] at hI
        have HIE := hid hI
        clear HP c1 c2 hl hk hI
        generalize l[lo].id = x at *
        generalize l[lo].til = y at *
        generalize cmpU x id = V at *
        have hq : (V == 0) = decide (V = 0) := by
          by_cases e : V = 0
          · subst e; rfl
          · rw [decide_eq_false e]; simpa using e
        generalize decide (V = 0) = Q at *
        go_wp2_with fail
        haveI := HNB.out
        refine wp_region_below (by kernel_rfl) (by kernel_rfl) (Below.refl wr.heap.size wr) ?_
        repeat (go_big_quiet_step ((go_at_call 78; exact calls_bw _ (C.out _))))
        refine wpQuiet_nil ?_
        intro wq hw'
        obtain ⟨⟨wz, hwq⟩, hw''⟩ := hw'
        subst hw''
        have HS := hid (HSTEP.out wq hwq)
        go_wp2_with fail
        go_ret2
        exact ⟨by rw [HKE.out, HIE.out]; rfl, hB ▸ HS.out.2⟩
      · obtain rfl : lo = n := by omega
        have hk := findR_at (l := l) (id := id) (k := lo) (by rw [HN.out]; exact Nat.le_refl _) (fun j hj => HP.out.1 j (by rw [HN.out]; exact hj) hj) (fun q => by rw [HN.out] at q; exact absurd q (Nat.lt_irrefl _))
        have HKE := hid (show K = lo by rw [← HK.out]; exact hk)
        have HIE := hid (show I = false by rw [← HI.out]; exact isR_len (by rw [hk, HN.out]))
        have hdf : decide ((lo : Int) < (lo : Int)) = false := by simp
        clear HP hk
        go_wp2_with fail
        haveI := HNB.out
        refine wp_region_below (by kernel_rfl) (by kernel_rfl) (Below.refl wr.heap.size wr) ?_
        repeat (go_big_quiet_step ((fail)))
        refine wpQuiet_nil ?_
        intro wq hw'
        obtain ⟨⟨wz, hwq⟩, hw''⟩ := hw'
        subst hw''
        have HS := hid (HSTEP.out wq hwq)
        go_wp2_with fail
        go_ret2
        exact ⟨by rw [HKE.out, HIE.out]; rfl, hB ▸ HS.out.2⟩

end Go.Proofs.YtgdfeicojgnoaaaGreatDoor

namespace Go.Proofs.YtgdfeicojgnoaaaGreatDoor
open Go.RowKit
set_option linter.unusedVariables false
set_option linter.unusedSimpArgs false

theorem cRowAt (a : Option Addr) (cap : Nat) (l : List Ro) (id : ByteArray) (w : World) (hR : RoRow w a l) (hP : RowsP l l.length) (hn : l.length ≤ 1048576) :
    Calls Tryz.prog 38 #[.slice a l.length cap, .string id] w fun e w' => e = .returned (.tuple #[.int .i64 ((findR l id : Nat) : Int), .bool (isR l id)]) ∧ Below w.heap.size w w' := by
  have C := hid (cSearch a cap l id w hR hP hn)
  generalize findR l id = K at *
  generalize isR l id = I at *
  generalize l.length = n at *
  clear hR hP
  go_enter Tryz.func38, Tryz.ntmps38
  go_wp2_with fail
  refine C.out.mono ?_
  rintro e w1 ⟨rfl, hb1⟩
  have HB1 := hid hb1
  clear hb1 C
  go_wp2_with fail
  go_ret2
  exact ⟨rfl, HB1.out⟩

theorem cMostOk (x : Int) (w : World) :
    Calls Tryz.prog 75 #[.int .i64 x] w fun e w' => e = .returned (.bool (mostB x)) ∧ w' = w := by
  unfold mostB
  go_enter Tryz.func75, Tryz.ntmps75
  go_wp2
  all_goals go_ret
  all_goals exact ⟨by congr 2; simp; try omega, rfl⟩

set_option maxHeartbeats 1000000 in
theorem cRowOk (x : ByteArray) (y : Int) (w : World) (hx : x.size ≤ 1048576) :
    Calls Tryz.prog 114 #[.agg #[.string x, .int .i64 y]] w fun e w' => e = .returned (.bool (roB ⟨x, y⟩)) ∧ Below w.heap.size w w' := by
  have CI := hid (fun wx => u_cIdOk x wx hx)
  have CT := hid (fun wx => cTimeI y wx)
  have HB0 := hid ((Below.refl w.heap.size w).alloc (Nat.le_refl _) (.cells #[.string x, .int .i64 y] 83))
  unfold roB utmB
  simp only
  generalize u_idOk x = P at *
  generalize decide (0 ≤ y ∧ y ≤ 3155759999) = Q at *
  go_enter Tryz.func114, Tryz.ntmps114
  go_wp2_with fail
  refine (CI.out _).mono ?_
  rintro e w1 ⟨rfl, rfl⟩
  cases P
  · go_wp2_with fail
    go_ret
    exact ⟨rfl, HB0.out⟩
  · go_wp2_with fail
    refine (CT.out _).mono ?_
    rintro e w2 ⟨rfl, rfl⟩
    go_wp2_with fail
    go_ret
    exact ⟨rfl, HB0.out⟩

theorem ltB_geq {a b : ByteArray} : (!(Op.bytesLess a.toList b.toList)) = !(u_ltB a b) := rfl

set_option maxRecDepth 8000 in
set_option maxHeartbeats 4000000 in
theorem cRowsOk (a : Option Addr) (cap : Nat) (l : List Ro) (w : World) (hR : RoRow w a l) (hz : RoSz 1048576 l) (hn : l.length ≤ 1048576) :
    Calls Tryz.prog 76 #[.slice a l.length cap] w fun e w' => e = .returned (.bool (rowsB l)) ∧ Below w.heap.size w w' := by
  obtain ⟨V, hV⟩ : ∃ V, rowsB l = V := ⟨_, rfl⟩
  rw [hV]
  have HF : Hid (rowsB l = false → V = false) := fun h => by rw [← hV, h]
  have HT : Hid (RowsP l l.length → V = true) := fun h => by rw [← hV]; exact rowsB_t h
  have HR := hid hR
  have HZ := hid hz
  clear hV hR hz
  obtain ⟨n, hnn⟩ : ∃ n, l.length = n := ⟨_, rfl⟩
  have HN := hid hnn
  rw [hnn] at hn HT ⊢
  clear hnn
  go_enter Tryz.func76, Tryz.ntmps76
  go_wp2_with fail
  go_loopw [7] (fun k wr => ∃ i : Nat, k = .int .i64 (i : Int) ∧ i ≤ n ∧ Hid (RowsP l i) ∧ Hid (Below w.heap.size w wr)) (fun k _ => n - (intOf k).toNat)
  case atStart => exact ⟨0, rfl, Nat.zero_le _, rowsP_zero l, Below.refl _ _⟩
  case round =>
    obtain ⟨i, rfl, hi, HP, HB⟩ := hrel
    by_cases hlt : i < n
    · have his : i < l.length := by rw [HN.out]; exact hlt
      have hin : (i : Int) < (n : Int) := by omega
      obtain ⟨b, o, rfl, hb, c1, c2⟩ := HR.out.below HB.out i his
      have CR := hid (fun wx => cRowOk l[i].id l[i].til wx (HZ.out _ (List.getElem_mem his)))
      have HNX := hid (fun h => rowsP_next HP.out his h)
      have HBad := hid (fun h => HF.out (rowsB_f his h))
      have HAt : Hid (RoAt l i his ↔ roB ⟨l[i].id, l[i].til⟩ = true ∧ (0 < i → u_ltB (l[i - 1]'(by omega)).id l[i].id = true)) := Iff.rfl
      have M := hid (heap_alloc_new wr (.cells #[.string l[i].id, .int .i64 l[i].til] 83))
      have HB0 := hid (HB.out.alloc HB.out.size (.cells #[.string l[i].id, .int .i64 l[i].til] 83))
      obtain ⟨g, hg⟩ : ∃ g, wr.heap.size = g := ⟨_, rfl⟩
      have hprev : i = 0 ∨ ∃ k : Nat, k + 1 = i := by
        rcases Nat.eq_zero_or_pos i with h | h
        · exact .inl h
        · exact .inr ⟨i - 1, by omega⟩
      cases hr : roB ⟨l[i].id, l[i].til⟩ with
      | false =>
        have HVF := hid (HBad.out (fun h => by have := (HAt.out.1 h).1; rw [hr] at this; cases this))
        rw [hr] at CR
        clear HAt HNX HBad hr hprev
        generalize l[i].id = x at *
        generalize l[i].til = y at *
        go_wp2_with fail
        obtain ⟨W0, hW0⟩ : ∃ W0, wr.alloc (.cells #[.string x, .int .i64 y] 83) = W0 := ⟨_, rfl⟩
        rw [hW0] at M HB0
        simp only [hW0, hg] at M ⊢
        have hgl := lt_of_heap M.out
        obtain ⟨m0, m1⟩ := u_box2c M.out
        have X0 := fun p : BW W0 => (p.h.cell (p := ⟨g, 0, none⟩) hgl).trans m0
        have X1 := fun p : BW W0 => (p.h.cell (p := ⟨g, 1, none⟩) hgl).trans m1
        have HNB := hid (bw_any W0)
        clear hW0
        haveI := HNB.out
        refine wp_region_below (by kernel_rfl) (by kernel_rfl) (Below.refl W0.heap.size W0) ?_
        repeat (go_big_quiet_step ((go_at_call 114; exact calls_bw _ (CR.out _))))
        refine wpQuiet_nil ?_
        intro wq hw'
        obtain ⟨⟨wz, hwq⟩, hw''⟩ := hw'
        subst hw''
        have HS := hid (bb HB0.out hwq)
        go_wp2_with fail
        go_ret
        exact ⟨by rw [HVF.out]; rfl, HS.out⟩
      | true =>
        rw [hr] at CR
        rcases hprev with rfl | ⟨k, hk⟩
        · have HP1 := hid (HNX.out (HAt.out.2 ⟨hr, fun h => absurd h (Nat.lt_irrefl 0)⟩))
          clear HAt HNX HBad hr
          simp only [Nat.zero_mul, Nat.add_zero] at c1 c2
          generalize l[0].id = x at *
          generalize l[0].til = y at *
          go_wp2_with fail
          obtain ⟨W0, hW0⟩ : ∃ W0, wr.alloc (.cells #[.string x, .int .i64 y] 83) = W0 := ⟨_, rfl⟩
          rw [hW0] at M HB0
          simp only [hW0, hg] at M ⊢
          have hgl := lt_of_heap M.out
          obtain ⟨m0, m1⟩ := u_box2c M.out
          have X0 := fun p : BW W0 => (p.h.cell (p := ⟨g, 0, none⟩) hgl).trans m0
          have X1 := fun p : BW W0 => (p.h.cell (p := ⟨g, 1, none⟩) hgl).trans m1
          have HNB := hid (bw_any W0)
          clear hW0
          haveI := HNB.out
          refine wp_region_below (by kernel_rfl) (by kernel_rfl) (Below.refl W0.heap.size W0) ?_
          repeat (go_big_quiet_step ((go_at_call 114; exact calls_bw _ (CR.out _))))
          refine wpQuiet_nil ?_
          intro wq hw'
          obtain ⟨⟨wz, hwq⟩, hw''⟩ := hw'
          subst hw''
          have HS := hid (bb HB0.out hwq)
          clear CR X0 X1 HNB m0 m1 M HB0 HB
          go_wp2_with fail
          go_roundw
          case rel => exact ⟨1, by go_num, by omega, HP1.out, HS.out⟩
          case measure => simp [intOf]; omega
        · have h3 : 0 < i := by omega
          have hki : (i : Int) - 1 = (k : Int) := by omega
          have hks : k < l.length := by omega
          have hpos : decide ((0 : Int) < (i : Int)) = true := by simp; omega
          obtain ⟨b', o', e', hb', c1', c2'⟩ := HR.out.below HB0.out k hks
          cases e'
          have hb2 : b < (wr.alloc (.cells #[.string l[i].id, .int .i64 l[i].til] 83)).heap.size := hb'
          have ek : (l[i - 1]'(by omega)) = l[k] := by simp only [show i - 1 = k by omega]
          have hkl : (k : Int) < (n : Int) := by omega
          rw [ek] at HAt
          have hcase : (u_ltB l[k].id l[i].id = true ∧ RoAt l i his) ∨ (u_ltB l[k].id l[i].id = false ∧ ¬ RoAt l i his) := by
            rw [HAt.out]
            cases u_ltB l[k].id l[i].id <;> simp [hr, h3]
          unfold u_ltB at hcase
          rcases hcase with ⟨hl, hq⟩ | ⟨hl, hq⟩
          · have HP1 := hid (HNX.out hq)
            clear HAt HNX HBad hr hq ek c2'
            generalize l[i].id = x at *
            generalize l[i].til = y at *
            generalize l[k].id = z at *
            go_wp2_with fail
            obtain ⟨W0, hW0⟩ : ∃ W0, wr.alloc (.cells #[.string x, .int .i64 y] 83) = W0 := ⟨_, rfl⟩
            rw [hW0] at M HB0 hb2 c1'
            simp only [hW0, hg] at M ⊢
            have hgl := lt_of_heap M.out
            obtain ⟨m0, m1⟩ := u_box2c M.out
            have X0 := fun p : BW W0 => (p.h.cell (p := ⟨g, 0, none⟩) hgl).trans m0
            have X1 := fun p : BW W0 => (p.h.cell (p := ⟨g, 1, none⟩) hgl).trans m1
            have X2 := fun p : BW W0 => (p.h.cell (p := ⟨b, o + k * 2, none⟩) hb2).trans c1'
            have HNB := hid (bw_any W0)
            clear hW0
            haveI := HNB.out
            refine wp_region_below (by kernel_rfl) (by kernel_rfl) (Below.refl W0.heap.size W0) ?_
            repeat (go_big_quiet_step ((go_at_call 114; exact calls_bw _ (CR.out _))))
            refine wpQuiet_nil ?_
            intro wq hw'
            obtain ⟨⟨wz, hwq⟩, hw''⟩ := hw'
            subst hw''
            have HS := hid (bb HB0.out hwq)
            clear CR X0 X1 X2 HNB m0 m1 M HB0 HB c1' hl
            go_wp2_with fail
            go_roundw
            case rel => exact ⟨i + 1, by go_num, by omega, HP1.out, HS.out⟩
            case measure => simp [intOf]; omega
          · have HVF := hid (HBad.out hq)
            clear HAt HNX HBad hr hq ek c2'
            generalize l[i].id = x at *
            generalize l[i].til = y at *
            generalize l[k].id = z at *
            go_wp2_with fail
            obtain ⟨W0, hW0⟩ : ∃ W0, wr.alloc (.cells #[.string x, .int .i64 y] 83) = W0 := ⟨_, rfl⟩
            rw [hW0] at M HB0 hb2 c1'
            simp only [hW0, hg] at M ⊢
            have hgl := lt_of_heap M.out
            obtain ⟨m0, m1⟩ := u_box2c M.out
            have X0 := fun p : BW W0 => (p.h.cell (p := ⟨g, 0, none⟩) hgl).trans m0
            have X1 := fun p : BW W0 => (p.h.cell (p := ⟨g, 1, none⟩) hgl).trans m1
            have X2 := fun p : BW W0 => (p.h.cell (p := ⟨b, o + k * 2, none⟩) hb2).trans c1'
            have HNB := hid (bw_any W0)
            clear hW0
            haveI := HNB.out
            refine wp_region_below (by kernel_rfl) (by kernel_rfl) (Below.refl W0.heap.size W0) ?_
            repeat (go_big_quiet_step ((go_at_call 114; exact calls_bw _ (CR.out _))))
            refine wpQuiet_nil ?_
            intro wq hw'
            obtain ⟨⟨wz, hwq⟩, hw''⟩ := hw'
            subst hw''
            have HS := hid (bb HB0.out hwq)
            go_wp2_with fail
            go_ret
            exact ⟨by rw [HVF.out]; rfl, HS.out⟩
    · have hie : i = n := by omega
      subst hie
      have HVT := hid (HT.out HP.out)
      go_wp2_with fail
      go_ret
      exact ⟨by rw [HVT.out]; rfl, HB.out⟩

set_option maxHeartbeats 2000000 in
theorem cTableOkI (t : Tb) (a : Option Addr) (cap : Nat) (w : World) (hR : RoRow w a t.rows) (hz : RoSz 1048576 t.rows) (hn : t.rows.length ≤ 1048576) :
    Calls Tryz.prog 37 #[tbV t a cap] w fun e w' => e = .returned (.bool (tableB t)) ∧ Below w.heap.size w w' := by
  have CR := hid (fun wx (h : Below w.heap.size w wx) => cRowsOk a cap t.rows wx (hR.below h) hz hn)
  have CM := hid (fun wx => cMostOk t.most wx)
  have HB0 := hid ((Below.refl w.heap.size w).alloc (Nat.le_refl _) (.cells #[.int .i64 t.most, .slice a t.rows.length cap] 27))
  have HX := hid (TbBox.new w t.most (.slice a t.rows.length cap) 27)
  unfold tableB tbV
  generalize rowsB t.rows = V at *
  generalize t.rows.length = n at *
  generalize t.most = m at *
  generalize mostB m = M at *
  clear hR hz
  cases M
  · go_enter Tryz.func37, Tryz.ntmps37
    go_wp2_with fail
    refine (CM.out _).mono ?_
    rintro e w1 ⟨rfl, rfl⟩
    go_wp2_with fail
    go_ret
    exact ⟨rfl, HB0.out⟩
  · cases hq : decide ((n : Int) ≤ m) with
    | false =>
      have hq' : ¬ (n : Int) ≤ m := by simpa using hq
      go_enter Tryz.func37, Tryz.ntmps37
      go_wp2_with fail
      refine (CM.out _).mono ?_
      rintro e w1 ⟨rfl, rfl⟩
      go_wp2_with fail
      go_ret
      exact ⟨rfl, HB0.out⟩
    | true =>
      have hq' : (n : Int) ≤ m := by simpa using hq
      go_enter Tryz.func37, Tryz.ntmps37
      go_wp2_with fail
      refine (CM.out _).mono ?_
      rintro e w1 ⟨rfl, rfl⟩
      go_wp2_with fail
      refine (CR.out _ HB0.out).mono ?_
      rintro e w2 ⟨rfl, hb2⟩
      have HB2 := hid (bb HB0.out hb2)
      clear hb2
      go_wp2_with fail
      go_ret
      exact ⟨by cases V <;> rfl, HB2.out⟩

theorem cHoldsI (t : Tb) (a : Option Addr) (cap : Nat) (id : ByteArray) (w : World) (hR : RoRow w a t.rows) (hz : RoSz 1048576 t.rows) (hn : t.rows.length ≤ 1048576) :
    Calls Tryz.prog 13 #[tbV t a cap, .string id] w fun e w' => e = .returned (.bool (holdsT t id)) ∧ Below w.heap.size w w' := by
  have CO := hid (fun wx (h : Below w.heap.size w wx) => cTableOkI t a cap wx (hR.below h) hz hn)
  have CF := hid (fun (hP : tableB t = true) wx (h : Below w.heap.size w wx) => cRowAt a cap t.rows id wx (hR.below h) (tableB_p hP).2.2 hn)
  have HB0 := hid ((Below.refl w.heap.size w).alloc (Nat.le_refl _) (.cells #[.int .i64 t.most, .slice a t.rows.length cap] 27))
  have HX := hid (TbBox.new w t.most (.slice a t.rows.length cap) 27)
  unfold holdsT
  unfold tbV at CO ⊢
  generalize isR t.rows id = I at *
  generalize findR t.rows id = K at *
  generalize t.rows.length = n at *
  generalize t.most = m at *
  clear hR hz
  cases hT : tableB t with
  | false =>
    rw [hT] at CO
    clear CF
    go_enter Tryz.func13, Tryz.ntmps13
    go_wp2_with fail
    refine (CO.out _ HB0.out).mono ?_
    rintro e w1 ⟨rfl, hb1⟩
    have HB1 := hid (bb HB0.out hb1)
    clear hb1
    go_wp2_with fail
    go_ret
    exact ⟨rfl, HB1.out⟩
  | true =>
    have CF2 := hid (CF.out hT)
    rw [hT] at CO
    clear CF hT
    go_enter Tryz.func13, Tryz.ntmps13
    go_wp2_with fail
    refine (CO.out _ HB0.out).mono ?_
    rintro e w1 ⟨rfl, hb1⟩
    have HB1 := hid (bb HB0.out hb1)
    have HX1 := hid (HX.out.below hb1)
    clear hb1
    obtain ⟨x0, x1⟩ := And.intro HX1.out.c0 HX1.out.c1
    go_wp2_with fail
    refine (CF2.out _ HB1.out).mono ?_
    rintro e w2 ⟨rfl, hb2⟩
    have HB2 := hid (bb HB1.out hb2)
    clear hb2
    go_wp2_with fail
    go_ret
    exact ⟨rfl, HB2.out⟩

end Go.Proofs.YtgdfeicojgnoaaaGreatDoor

namespace Go.Proofs.YtgdfeicojgnoaaaGreatDoor
open Go.RowKit
set_option linter.unusedVariables false
set_option linter.unusedSimpArgs false

/-- What lies in a hand's box. -/
structure HdBox (w : World) (B : Nat) (x : ByteArray) (n e d : Int) : Prop where
  lt : B < w.heap.size
  c0 : w.cell? ⟨B, 0, none⟩ = some (.string x)
  c1 : w.cell? ⟨B, 1, none⟩ = some (.int .i64 n)
  c2 : w.cell? ⟨B, 2, none⟩ = some (.int .i64 e)
  c3 : w.cell? ⟨B, 3, none⟩ = some (.int .i64 d)

theorem HdBox.below {w w' : World} {B : Nat} {x : ByteArray} {n e d : Int} (h : HdBox w B x n e d) (hb : Below w.heap.size w w') : HdBox w' B x n e d :=
  ⟨Nat.lt_of_lt_of_le h.lt hb.size, (hb.cell h.lt).trans h.c0, (hb.cell h.lt).trans h.c1, (hb.cell h.lt).trans h.c2, (hb.cell h.lt).trans h.c3⟩

theorem HdBox.new (w : World) (x : ByteArray) (n e d : Int) (T : TypeId) : HdBox (w.alloc (.cells #[.string x, .int .i64 n, .int .i64 e, .int .i64 d] T)) w.heap.size x n e d := by
  have h := heap_alloc_new w (.cells #[.string x, .int .i64 n, .int .i64 e, .int .i64 d] T)
  exact ⟨lt_of_heap h, Lib.cell_of_heap h _, Lib.cell_of_heap h _, Lib.cell_of_heap h _, Lib.cell_of_heap h _⟩

theorem g_cell_alloc {w : World} {p : Addr} {v : Value} (h : w.cell? p = some v) (hp : p.block < w.heap.size) (o : Obj) : (w.alloc o).cell? p = some v :=
  (((Below.refl w.heap.size w).alloc (Nat.le_refl _) o).cell hp).trans h

set_option maxHeartbeats 1000000 in
theorem cHandAt1 (x : ByteArray) (n e d : Int) (name : ByteArray) (b o : Nat) (w : World) (hp : b < w.heap.size) (hc : w.cell? ⟨b, o, none⟩ = some (.string name)) :
    Calls Tryz.prog 121 #[.agg #[.string x, .int .i64 n, .int .i64 e, .int .i64 d], .pointer (some ⟨b, o, none⟩)] w fun r w' => r = .returned (.bool (decide (x = name))) ∧ Below w.heap.size w w' := by
  have HB0 := hid ((Below.refl w.heap.size w).alloc (Nat.le_refl _) (.cells #[.string x, .int .i64 n, .int .i64 e, .int .i64 d] 72))
  have c1 := g_cell_alloc hc hp (.cells #[.string x, .int .i64 n, .int .i64 e, .int .i64 d] 72)
  have hd := str_beq x name
  generalize decide (x = name) = D at hd ⊢
  clear hc
  go_enter Tryz.func121, Tryz.ntmps121
  go_wp2
  go_ret
  exact ⟨rfl, HB0.out⟩

set_option maxHeartbeats 2000000 in
theorem cHandIdx (a : Option Addr) (cap : Nat) (l : List Hd) (name : ByteArray) (b0 o0 : Nat) (w : World) (hR : HdRow w a l) (hn : l.length ≤ 1048576)
    (hp : b0 < w.heap.size) (hc : w.cell? ⟨b0, o0, none⟩ = some (.string name)) :
    Calls Tryz.prog 120 #[.slice a l.length cap, .func (.func 121) #[] #[.pointer (some ⟨b0, o0, none⟩)]] w fun e w' => ∃ r : Int, e = .returned (.int .i64 r) ∧ HandIs l name r ∧ Below w.heap.size w w' := by
  have HR := hid hR
  have HC := hid hc
  have HP := hid hp
  clear hR hc hp
  obtain ⟨n, hnn⟩ : ∃ n, l.length = n := ⟨_, rfl⟩
  have HN := hid hnn
  rw [hnn] at hn ⊢
  clear hnn
  go_enter Tryz.func120, Tryz.ntmps120
  go_wp2
  go_loopw [8] (fun k wr => ∃ i : Nat, k = .int .i64 (i : Int) ∧ i ≤ n ∧ Hid (∀ x ∈ l.take i, ¬ x.iss = name) ∧ Hid (Below w.heap.size w wr)) (fun k _ => n - (intOf k).toNat)
  case atStart => exact ⟨0, rfl, Nat.zero_le _, fun x hx => by simp at hx, Below.refl _ _⟩
  case round =>
    obtain ⟨i, rfl, hi, HO, HB⟩ := hrel
    by_cases hlt : i < n
    · have his : i < l.length := by rw [HN.out]; exact hlt
      obtain ⟨b, o, rfl, hb, c0, c1, c2, c3⟩ := HR.out.below HB.out i his
      have hin : (i : Int) < (n : Int) := by omega
      have HT := hid (take_snocN his)
      have HS := hid HB.out.size
      have HCr := hid ((HB.out.cell (p := ⟨b0, o0, none⟩) HP.out).trans HC.out)
      have C := hid (cHandAt1 l[i].iss l[i].n l[i].e l[i].d name b0 o0 wr (Nat.lt_of_lt_of_le HP.out HS.out) HCr.out)
      by_cases hq : l[i].iss = name
      · have HI := hid (show HandIs l name (i : Int) from .inr ⟨i, his, rfl, hq, HO.out⟩)
        have e0 : decide (l[i].iss = name) = true := decide_eq_true hq
        rw [e0] at C
        generalize l[i].iss = x at *
        generalize l[i].n = kn at *
        generalize l[i].e = ke at *
        generalize l[i].d = kd at *
        clear hq e0
        go_wp2_with fail
        refine C.out.mono ?_
        rintro e w1 ⟨rfl, hb1⟩
        have HB1 := hid (bb HB.out hb1)
        go_wp2
        go_ret
        exact ⟨_, rfl, HI.out, HB1.out⟩
      · have HO2 := hid (show ∀ x ∈ l.take (i + 1), ¬ x.iss = name by
          rw [HT.out]
          intro x hx
          rcases List.mem_append.1 hx with h | h
          · exact HO.out x h
          · rw [List.mem_singleton] at h
            subst h
            exact hq)
        have e0 : decide (l[i].iss = name) = false := decide_eq_false hq
        rw [e0] at C
        generalize l[i].iss = x at *
        generalize l[i].n = kn at *
        generalize l[i].e = ke at *
        generalize l[i].d = kd at *
        clear hq e0
        go_wp2_with fail
        refine C.out.mono ?_
        rintro e w1 ⟨rfl, hb1⟩
        have HB1 := hid (bb HB.out hb1)
        go_wp2
        go_roundw
        case rel => exact ⟨i + 1, by go_num, by omega, HO2.out, HB1.out⟩
        case measure => simp [intOf]; omega
    · have hie : i = n := by omega
      subst hie
      have h1 := HO.out
      rw [List.take_of_length_le (by rw [HN.out]; exact Nat.le_refl _)] at h1
      have HI := hid (show HandIs l name (-1) from .inl ⟨rfl, h1⟩)
      clear h1
      go_wp2
      go_ret
      exact ⟨_, rfl, HI.out, HB.out⟩

set_option maxHeartbeats 1000000 in
theorem cHandAt (a : Option Addr) (cap : Nat) (l : List Hd) (name : ByteArray) (w : World) (hR : HdRow w a l) (hn : l.length ≤ 1048576) :
    Calls Tryz.prog 82 #[.slice a l.length cap, .string name] w fun e w' => ∃ r : Int, e = .returned (.int .i64 r) ∧ HandIs l name r ∧ Below w.heap.size w w' := by
  have hmf : ∀ (fn : Fn) (first cap : Array Value) (w : World), (Instr.makeFunc fn first cap).run Tryz.prog w = .ok (.func fn first cap) w := fun _ _ _ _ => rfl
  have HB0 := hid ((Below.refl w.heap.size w).alloc (Nat.le_refl _) (.cells #[.string name] 9))
  have C := hid (cHandIdx a cap l name w.heap.size 0 (w.alloc (.cells #[.string name] 9)) (hR.below HB0.out) hn (by simp) (by simp [go_sem]))
  clear hR
  generalize l.length = n at *
  go_enter Tryz.func82, Tryz.ntmps82
  go_wp2_with fail
  refine C.out.mono ?_
  rintro e w1 ⟨r, rfl, hr, hb1⟩
  have HI := hid hr
  have HB1 := hid (bb HB0.out hb1)
  clear hr hb1
  go_wp2
  go_ret
  exact ⟨_, rfl, HI.out, HB1.out⟩

set_option maxRecDepth 8000 in
set_option maxHeartbeats 8000000 in
theorem cHandsOk (a : Option Addr) (cap : Nat) (l : List Hd) (w : World) (hR : HdRow w a l) (hz : HdSz 1048576 l) (hn : l.length ≤ 1048576) :
    Calls Tryz.prog 40 #[.slice a l.length cap] w fun e w' => e = .returned (.bool (handsB l)) ∧ Below w.heap.size w w' := by
  have HR := hid hR
  have HZ := hid hz
  have CA := hid (fun name wx (h : Below w.heap.size w wx) => cHandAt a cap l name wx (hR.below h) hn)
  have HT4 := hid (fun h => handsB_t (l := l) h)
  have HF4 := hid (fun h => handsB_4 (l := l) h)
  have HFF := hid (fun (i : Nat) (hi : i < l.length) h => handsB_f (l := l) hi h)
  obtain ⟨V, hV⟩ : ∃ V, handsB l = V := ⟨_, rfl⟩
  rw [hV] at HT4 HF4 ⊢
  simp only [hV] at HFF
  clear hR hz hV
  obtain ⟨n, hnn⟩ : ∃ n, l.length = n := ⟨_, rfl⟩
  have HN := hid hnn
  rw [hnn] at hn CA HT4 HF4 ⊢
  clear hnn
  by_cases h4 : n ≤ 4
  case neg =>
    have h4' : (4 : Int) < (n : Int) := by omega
    have hv := HF4.out h4
    subst hv
    go_enter Tryz.func40, Tryz.ntmps40
    go_wp2_with fail
    go_ret
    exact ⟨rfl, Below.refl _ _⟩
  have h4' : ¬ (4 : Int) < (n : Int) := by omega
  go_enter Tryz.func40, Tryz.ntmps40
  go_wp2_with fail
  go_loopw [10] (fun k wr => ∃ i : Nat, k = .int .i64 (i : Int) ∧ i ≤ n ∧ Hid (HandsP l i) ∧ Hid (Below w.heap.size w wr)) (fun k _ => n - (intOf k).toNat)
  case atStart => exact ⟨0, rfl, Nat.zero_le _, HandsP.zero _, Below.refl _ _⟩
  case round =>
    obtain ⟨i, rfl, hi, HP, HB⟩ := hrel
    by_cases hlt : i < n
    case neg =>
      have hie : i = n := by omega
      subst hie
      have hv := HT4.out h4 HP.out
      subst hv
      go_wp2_with fail
      go_ret
      exact ⟨rfl, HB.out⟩
    have his : i < l.length := by rw [HN.out]; exact hlt
    obtain ⟨b, o, rfl, hbl, c0, c1, c2, c3⟩ := HR.out.below HB.out i his
    have hin : (i : Int) < (n : Int) := by omega
    have HFI := hid (fun h => HFF.out i his h)
    have HIH := hid (fun (r : Int) (h : HandIs l l[i].iss r) => handIs_here his h)
    have HST := hid (fun h => HP.out.step his h)
    have CW := hid (fun wx => g_cWordOk l[i].iss wx (HZ.out _ (List.getElem_mem his)))
    have CK := hid (fun wx => g_cKeyOkI l[i].n l[i].e l[i].d wx)
    have CA1 := hid (fun wx (h : Below w.heap.size w wx) => CA.out l[i].iss wx h)
    unfold HandAt handB at HFI HST
    generalize hdx : l[i].iss = x at *
    generalize hdn : l[i].n = kn at *
    generalize hde : l[i].e = ke at *
    generalize hdd : l[i].d = kd at *
    clear hdx hdn hde hdd
    have HX := hid (HdBox.new wr x kn ke kd 72)
    have HB0 := hid ((Below.refl wr.heap.size wr).alloc (Nat.le_refl _) (.cells #[.string x, .int .i64 kn, .int .i64 ke, .int .i64 kd] 72))
    obtain ⟨W0, hW0⟩ : ∃ W0, wr.alloc (.cells #[.string x, .int .i64 kn, .int .i64 ke, .int .i64 kd] 72) = W0 := ⟨_, rfl⟩
    rw [hW0] at HX HB0
    obtain ⟨B, hB⟩ : ∃ B, wr.heap.size = B := ⟨_, rfl⟩
    rw [hB] at HX
    have HBW := hid (bb HB.out HB0.out)
    clear HP HFF HT4 HF4 CA
    obtain ⟨f0, f1, f2, f3⟩ := And.intro HX.out.c0 (And.intro HX.out.c1 (And.intro HX.out.c2 HX.out.c3))
    cases hw : g_wordB x with
    | false =>
      have hv := HFI.out (by rw [hw]; simp)
      subst hv
      rw [hw] at CW
      clear HFI HIH HST CK CA1 hw
      go_wp2_with fail
      refine (CW.out _).mono ?_
      rintro e w1 ⟨rfl, rfl⟩
      go_wp2_with fail
      go_ret
      exact ⟨rfl, HBW.out⟩
    | true =>
    rw [hw] at CW HFI HST
    clear hw
    cases hk : g_okB kn ke kd with
    | false =>
      have hv := HFI.out (by rw [hk]; simp)
      subst hv
      rw [hk] at CK
      clear HFI HIH HST CA1 hk
      go_wp2_with fail
      refine (CW.out _).mono ?_
      rintro e w1 ⟨rfl, rfl⟩
      go_wp2_with fail
      refine (CK.out _).mono ?_
      rintro e w2 ⟨rfl, hb2⟩
      have HB2 := hid (bb HBW.out hb2)
      clear hb2 CW CK hW0
      go_wp2_with fail
      go_ret
      exact ⟨rfl, HB2.out⟩
    | true =>
    rw [hk] at CK HFI HST
    clear hk
    by_cases hd : kd = 0
    case neg =>
      have hv := HFI.out (by simp [hd])
      subst hv
      have hd' : (kd != 0) = true := by simpa using hd
      clear HFI HIH HST CA1
      go_wp2_with fail
      refine (CW.out _).mono ?_
      rintro e w1 ⟨rfl, rfl⟩
      go_wp2_with fail
      refine (CK.out _).mono ?_
      rintro e w2 ⟨rfl, hb2⟩
      have HB2 := hid (bb HBW.out hb2)
      have HX2 := hid (HX.out.below hb2)
      clear hb2 CW CK hW0 f0 f1 f2 f3
      have f3 := HX2.out.c3
      go_wp2_with fail
      go_ret
      exact ⟨rfl, HB2.out⟩
    have hd' : (kd != 0) = false := by simpa using hd
    have HD0 := hid hd
    clear hd
    go_wp2_with fail
    refine (CW.out _).mono ?_
    rintro e w1 ⟨rfl, rfl⟩
    go_wp2_with fail
    refine (CK.out _).mono ?_
    rintro e w2 ⟨rfl, hb2⟩
    have HB2 := hid (bb HBW.out hb2)
    have HX2 := hid (HX.out.below hb2)
    clear hb2 CW CK hW0 f0 f1 f2 f3
    obtain ⟨f0, f3⟩ := And.intro HX2.out.c0 HX2.out.c3
    go_wp2_with fail
    refine (CA1.out _ HB2.out).mono ?_
    rintro e w3 ⟨r, rfl, hr, hb3⟩
    have HB3 := hid (bb HB2.out hb3)
    have HRI := hid (HIH.out r hr)
    clear hr hb3 CA1 HIH f0 f3 hd'
    by_cases hri : r = (i : Int)
    · have HS := hid (HST.out ⟨by rw [HD0.out]; rfl, HRI.out.1 hri⟩)
      have hrb : (r != (i : Int)) = false := by simpa using hri
      clear HFI HST HRI hri HD0
      go_wp2_with fail
      go_roundw
      case rel => exact ⟨i + 1, by go_num, by omega, HS.out, HB3.out⟩
      case measure => simp [intOf]; omega
    · have hv := HFI.out (fun h => hri (HRI.out.2 h.2))
      subst hv
      have hrb : (r != (i : Int)) = true := by simpa using hri
      clear HFI HST HRI hri HD0
      go_wp2_with fail
      go_ret
      exact ⟨rfl, HB3.out⟩

theorem GtBox.cells {w : World} {B : Nat} {x : ByteArray} {vh : Value} {sk nw am : Int} {va : Value} {hm : Int} {vr : Value} (h : GtBox w B x vh sk nw am va hm vr) :
    w.cell? ⟨B, 0, none⟩ = some (.string x) ∧ w.cell? ⟨B, 1, none⟩ = some vh ∧ w.cell? ⟨B, 2, none⟩ = some (.int .i64 sk) ∧ w.cell? ⟨B, 3, none⟩ = some (.int .i64 nw) ∧ w.cell? ⟨B, 4, none⟩ = some (.int .i64 am) ∧ w.cell? ⟨B, 5, none⟩ = some va ∧ w.cell? ⟨B, 6, none⟩ = some (.int .i64 hm) ∧ w.cell? ⟨B, 7, none⟩ = some vr :=
  ⟨h.c0, h.c1, h.c2, h.c3, h.c4, h.c5, h.c6, h.c7⟩

/-- A gate of at most so many bytes. -/
def GtSz (n : Nat) (g : Gt) : Prop := g.name.size ≤ n ∧ HdSz n g.hands ∧ g.hands.length ≤ n ∧ RoSz n g.ask.rows ∧ g.ask.rows.length ≤ n ∧ RoSz n g.hrd.rows ∧ g.hrd.rows.length ≤ n

/-- A gate that can be read. -/
def GtRow (w : World) (g : Gt) (ah aa ar : Option Addr) : Prop := HdRow w ah g.hands ∧ RoRow w aa g.ask.rows ∧ RoRow w ar g.hrd.rows

theorem GtRow.below {w w' : World} {g : Gt} {ah aa ar : Option Addr} (h : GtRow w g ah aa ar) (hb : Below w.heap.size w w') : GtRow w' g ah aa ar := ⟨h.1.below hb, h.2.1.below hb, h.2.2.below hb⟩

set_option maxRecDepth 8000 in
set_option maxHeartbeats 8000000 in
theorem cGateOkI (g : Gt) (ah : Option Addr) (ch : Nat) (aa : Option Addr) (ca : Nat) (ar : Option Addr) (cr : Nat) (w : World) (hR : GtRow w g ah aa ar) (hz : GtSz 1048576 g) :
    Calls Tryz.prog 14 #[gtV g ah ch aa ca ar cr] w fun e w' => e = .returned (.bool (gateB g)) ∧ Below w.heap.size w w' := by
  obtain ⟨z1, z2, z3, z4, z5, z6, z7⟩ := hz
  have CW := hid (fun wx => g_cWordOk g.name wx z1)
  have CH := hid (fun wx (h : Below w.heap.size w wx) => cHandsOk ah ch g.hands wx (hR.1.below h) z2 z3)
  have CS := hid (fun wx => g_cSkewI g.skew wx)
  have CT := hid (fun wx => cTimeI g.now wx)
  have CA := hid (fun wx (h : Below w.heap.size w wx) => cTableOkI g.ask aa ca wx (hR.2.1.below h) z4 z5)
  have CR := hid (fun wx (h : Below w.heap.size w wx) => cTableOkI g.hrd ar cr wx (hR.2.2.below h) z6 z7)
  have hM : decide (0 ≤ g.now ∧ g.now ≤ 3155759999) = utmB g.now := rfl
  rw [hM] at CT
  clear hM hR z1 z2 z3 z4 z5 z6 z7
  have HX0 := hid (GtBox.new w g.name (.slice ah g.hands.length ch) g.skew g.now g.ask.most (.slice aa g.ask.rows.length ca) g.hrd.most (.slice ar g.hrd.rows.length cr) 29)
  have HB0 := hid ((Below.refl w.heap.size w).alloc (Nat.le_refl _) (.cells #[.string g.name, .slice ah g.hands.length ch, .int .i64 g.skew, .int .i64 g.now, .int .i64 g.ask.most, .slice aa g.ask.rows.length ca, .int .i64 g.hrd.most, .slice ar g.hrd.rows.length cr] 29))
  unfold gtV gateB
  unfold tbV at CA CR
  generalize g_wordB g.name = b1 at *
  generalize handsB g.hands = b2 at *
  generalize g_skB g.skew = b3 at *
  generalize utmB g.now = b4 at *
  generalize tableB g.ask = b5 at *
  generalize tableB g.hrd = b6 at *
  generalize g.name = x at *
  generalize g.hands.length = nh at *
  generalize g.skew = sk at *
  generalize g.now = nw at *
  generalize g.ask.most = am at *
  generalize g.ask.rows.length = na at *
  generalize g.hrd.most = rm at *
  generalize g.hrd.rows.length = nr at *
  obtain ⟨W0, hW0⟩ : ∃ W0, w.alloc (.cells #[.string x, .slice ah nh ch, .int .i64 sk, .int .i64 nw, .int .i64 am, .slice aa na ca, .int .i64 rm, .slice ar nr cr] 29) = W0 := ⟨_, rfl⟩
  rw [hW0] at HX0 HB0
  obtain ⟨B, hB⟩ : ∃ B, w.heap.size = B := ⟨_, rfl⟩
  rw [hB] at HX0
  cases b1 with
  | false =>
    go_enter Tryz.func14, Tryz.ntmps14
    obtain ⟨f0, f1, f2, f3, f4, f5, f6, f7⟩ := HX0.out.cells
    go_wp2_with fail
    refine (CW.out _).mono ?_
    rintro e w1 ⟨rfl, rfl⟩
    have HB1 := HB0
    have HX1 := HX0
    clear f0 f1 f2 f3 f4 f5 f6 f7
    (try clear hW0)
    go_wp2_with fail
    go_ret
    exact ⟨rfl, HB1.out⟩
  | true =>
  cases b2 with
  | false =>
    go_enter Tryz.func14, Tryz.ntmps14
    obtain ⟨f0, f1, f2, f3, f4, f5, f6, f7⟩ := HX0.out.cells
    go_wp2_with fail
    refine (CW.out _).mono ?_
    rintro e w1 ⟨rfl, rfl⟩
    have HB1 := HB0
    have HX1 := HX0
    clear f0 f1 f2 f3 f4 f5 f6 f7
    (try clear hW0)
    obtain ⟨f0, f1, f2, f3, f4, f5, f6, f7⟩ := HX1.out.cells
    go_wp2_with fail
    refine (CH.out _ HB1.out).mono ?_
    rintro e w2 ⟨rfl, hb⟩
    have HB2 := hid (bb HB1.out hb)
    have HX2 := hid (HX1.out.below hb)
    clear hb f0 f1 f2 f3 f4 f5 f6 f7
    go_wp2_with fail
    go_ret
    exact ⟨rfl, HB2.out⟩
  | true =>
  cases b3 with
  | false =>
    go_enter Tryz.func14, Tryz.ntmps14
    obtain ⟨f0, f1, f2, f3, f4, f5, f6, f7⟩ := HX0.out.cells
    go_wp2_with fail
    refine (CW.out _).mono ?_
    rintro e w1 ⟨rfl, rfl⟩
    have HB1 := HB0
    have HX1 := HX0
    clear f0 f1 f2 f3 f4 f5 f6 f7
    (try clear hW0)
    obtain ⟨f0, f1, f2, f3, f4, f5, f6, f7⟩ := HX1.out.cells
    go_wp2_with fail
    refine (CH.out _ HB1.out).mono ?_
    rintro e w2 ⟨rfl, hb⟩
    have HB2 := hid (bb HB1.out hb)
    have HX2 := hid (HX1.out.below hb)
    clear hb f0 f1 f2 f3 f4 f5 f6 f7
    obtain ⟨f0, f1, f2, f3, f4, f5, f6, f7⟩ := HX2.out.cells
    go_wp2_with fail
    refine (CS.out _).mono ?_
    rintro e w3 ⟨rfl, rfl⟩
    have HB3 := HB2
    have HX3 := HX2
    clear f0 f1 f2 f3 f4 f5 f6 f7
    go_wp2_with fail
    go_ret
    exact ⟨rfl, HB3.out⟩
  | true =>
  cases b4 with
  | false =>
    go_enter Tryz.func14, Tryz.ntmps14
    obtain ⟨f0, f1, f2, f3, f4, f5, f6, f7⟩ := HX0.out.cells
    go_wp2_with fail
    refine (CW.out _).mono ?_
    rintro e w1 ⟨rfl, rfl⟩
    have HB1 := HB0
    have HX1 := HX0
    clear f0 f1 f2 f3 f4 f5 f6 f7
    (try clear hW0)
    obtain ⟨f0, f1, f2, f3, f4, f5, f6, f7⟩ := HX1.out.cells
    go_wp2_with fail
    refine (CH.out _ HB1.out).mono ?_
    rintro e w2 ⟨rfl, hb⟩
    have HB2 := hid (bb HB1.out hb)
    have HX2 := hid (HX1.out.below hb)
    clear hb f0 f1 f2 f3 f4 f5 f6 f7
    obtain ⟨f0, f1, f2, f3, f4, f5, f6, f7⟩ := HX2.out.cells
    go_wp2_with fail
    refine (CS.out _).mono ?_
    rintro e w3 ⟨rfl, rfl⟩
    have HB3 := HB2
    have HX3 := HX2
    clear f0 f1 f2 f3 f4 f5 f6 f7
    obtain ⟨f0, f1, f2, f3, f4, f5, f6, f7⟩ := HX3.out.cells
    go_wp2_with fail
    refine (CT.out _).mono ?_
    rintro e w4 ⟨rfl, rfl⟩
    have HB4 := HB3
    have HX4 := HX3
    clear f0 f1 f2 f3 f4 f5 f6 f7
    go_wp2_with fail
    go_ret
    exact ⟨rfl, HB4.out⟩
  | true =>
  cases b5 with
  | false =>
    go_enter Tryz.func14, Tryz.ntmps14
    obtain ⟨f0, f1, f2, f3, f4, f5, f6, f7⟩ := HX0.out.cells
    go_wp2_with fail
    refine (CW.out _).mono ?_
    rintro e w1 ⟨rfl, rfl⟩
    have HB1 := HB0
    have HX1 := HX0
    clear f0 f1 f2 f3 f4 f5 f6 f7
    (try clear hW0)
    obtain ⟨f0, f1, f2, f3, f4, f5, f6, f7⟩ := HX1.out.cells
    go_wp2_with fail
    refine (CH.out _ HB1.out).mono ?_
    rintro e w2 ⟨rfl, hb⟩
    have HB2 := hid (bb HB1.out hb)
    have HX2 := hid (HX1.out.below hb)
    clear hb f0 f1 f2 f3 f4 f5 f6 f7
    obtain ⟨f0, f1, f2, f3, f4, f5, f6, f7⟩ := HX2.out.cells
    go_wp2_with fail
    refine (CS.out _).mono ?_
    rintro e w3 ⟨rfl, rfl⟩
    have HB3 := HB2
    have HX3 := HX2
    clear f0 f1 f2 f3 f4 f5 f6 f7
    obtain ⟨f0, f1, f2, f3, f4, f5, f6, f7⟩ := HX3.out.cells
    go_wp2_with fail
    refine (CT.out _).mono ?_
    rintro e w4 ⟨rfl, rfl⟩
    have HB4 := HB3
    have HX4 := HX3
    clear f0 f1 f2 f3 f4 f5 f6 f7
    obtain ⟨f0, f1, f2, f3, f4, f5, f6, f7⟩ := HX4.out.cells
    go_wp2_with fail
    refine (CA.out _ HB4.out).mono ?_
    rintro e w5 ⟨rfl, hb⟩
    have HB5 := hid (bb HB4.out hb)
    have HX5 := hid (HX4.out.below hb)
    clear hb f0 f1 f2 f3 f4 f5 f6 f7
    go_wp2_with fail
    go_ret
    exact ⟨rfl, HB5.out⟩
  | true =>
  cases b6 with
  | false =>
    go_enter Tryz.func14, Tryz.ntmps14
    obtain ⟨f0, f1, f2, f3, f4, f5, f6, f7⟩ := HX0.out.cells
    go_wp2_with fail
    refine (CW.out _).mono ?_
    rintro e w1 ⟨rfl, rfl⟩
    have HB1 := HB0
    have HX1 := HX0
    clear f0 f1 f2 f3 f4 f5 f6 f7
    (try clear hW0)
    obtain ⟨f0, f1, f2, f3, f4, f5, f6, f7⟩ := HX1.out.cells
    go_wp2_with fail
    refine (CH.out _ HB1.out).mono ?_
    rintro e w2 ⟨rfl, hb⟩
    have HB2 := hid (bb HB1.out hb)
    have HX2 := hid (HX1.out.below hb)
    clear hb f0 f1 f2 f3 f4 f5 f6 f7
    obtain ⟨f0, f1, f2, f3, f4, f5, f6, f7⟩ := HX2.out.cells
    go_wp2_with fail
    refine (CS.out _).mono ?_
    rintro e w3 ⟨rfl, rfl⟩
    have HB3 := HB2
    have HX3 := HX2
    clear f0 f1 f2 f3 f4 f5 f6 f7
    obtain ⟨f0, f1, f2, f3, f4, f5, f6, f7⟩ := HX3.out.cells
    go_wp2_with fail
    refine (CT.out _).mono ?_
    rintro e w4 ⟨rfl, rfl⟩
    have HB4 := HB3
    have HX4 := HX3
    clear f0 f1 f2 f3 f4 f5 f6 f7
    obtain ⟨f0, f1, f2, f3, f4, f5, f6, f7⟩ := HX4.out.cells
    go_wp2_with fail
    refine (CA.out _ HB4.out).mono ?_
    rintro e w5 ⟨rfl, hb⟩
    have HB5 := hid (bb HB4.out hb)
    have HX5 := hid (HX4.out.below hb)
    clear hb f0 f1 f2 f3 f4 f5 f6 f7
    obtain ⟨f0, f1, f2, f3, f4, f5, f6, f7⟩ := HX5.out.cells
    go_wp2_with fail
    refine (CR.out _ HB5.out).mono ?_
    rintro e w6 ⟨rfl, hb⟩
    have HB6 := hid (bb HB5.out hb)
    have HX6 := hid (HX5.out.below hb)
    clear hb f0 f1 f2 f3 f4 f5 f6 f7
    go_wp2_with fail
    go_ret
    exact ⟨rfl, HB6.out⟩
  | true =>
  go_enter Tryz.func14, Tryz.ntmps14
  obtain ⟨f0, f1, f2, f3, f4, f5, f6, f7⟩ := HX0.out.cells
  go_wp2_with fail
  refine (CW.out _).mono ?_
  rintro e w1 ⟨rfl, rfl⟩
  have HB1 := HB0
  have HX1 := HX0
  clear f0 f1 f2 f3 f4 f5 f6 f7
  (try clear hW0)
  obtain ⟨f0, f1, f2, f3, f4, f5, f6, f7⟩ := HX1.out.cells
  go_wp2_with fail
  refine (CH.out _ HB1.out).mono ?_
  rintro e w2 ⟨rfl, hb⟩
  have HB2 := hid (bb HB1.out hb)
  have HX2 := hid (HX1.out.below hb)
  clear hb f0 f1 f2 f3 f4 f5 f6 f7
  obtain ⟨f0, f1, f2, f3, f4, f5, f6, f7⟩ := HX2.out.cells
  go_wp2_with fail
  refine (CS.out _).mono ?_
  rintro e w3 ⟨rfl, rfl⟩
  have HB3 := HB2
  have HX3 := HX2
  clear f0 f1 f2 f3 f4 f5 f6 f7
  obtain ⟨f0, f1, f2, f3, f4, f5, f6, f7⟩ := HX3.out.cells
  go_wp2_with fail
  refine (CT.out _).mono ?_
  rintro e w4 ⟨rfl, rfl⟩
  have HB4 := HB3
  have HX4 := HX3
  clear f0 f1 f2 f3 f4 f5 f6 f7
  obtain ⟨f0, f1, f2, f3, f4, f5, f6, f7⟩ := HX4.out.cells
  go_wp2_with fail
  refine (CA.out _ HB4.out).mono ?_
  rintro e w5 ⟨rfl, hb⟩
  have HB5 := hid (bb HB4.out hb)
  have HX5 := hid (HX4.out.below hb)
  clear hb f0 f1 f2 f3 f4 f5 f6 f7
  obtain ⟨f0, f1, f2, f3, f4, f5, f6, f7⟩ := HX5.out.cells
  go_wp2_with fail
  refine (CR.out _ HB5.out).mono ?_
  rintro e w6 ⟨rfl, hb⟩
  have HB6 := hid (bb HB5.out hb)
  have HX6 := hid (HX5.out.below hb)
  clear hb f0 f1 f2 f3 f4 f5 f6 f7
  go_wp2_with fail
  go_ret
  exact ⟨rfl, HB6.out⟩

end Go.Proofs.YtgdfeicojgnoaaaGreatDoor
