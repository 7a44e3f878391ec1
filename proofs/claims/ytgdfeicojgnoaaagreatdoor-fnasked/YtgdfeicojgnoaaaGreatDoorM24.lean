/- Contracts of Public, KeyOk, Locked and Opened, of the program. Contracts of Public, KeyOk, Locked and Opened, of the specification: what the program answers. Contracts of Gcd, of the program and of the specification: one answer. -/
import Derived.Test.YtgdfeicojgnoaaaGreatDoorM23
import Derived.Test.YtgdfeicojgnoaaaGreatDoorM22
namespace Go.Proofs.YtgdfeicojgnoaaaGreatDoor
open Go.RowKit
set_option linter.unusedVariables false
set_option linter.unusedSimpArgs false

/-- What Public tells: the modulus, and the power. -/
def pubN (n e : Int) : Int := if opB n e = true then n else 0

def pubE (n e : Int) : Int := if opB n e = true then e else 0

/-- What Locked tells. -/
noncomputable def lockI (n e d h : Int) : Int := if lkB n e d = true then powI h d n else -1

/-- What Opened tells. -/
noncomputable def openI (n e d v : Int) : Int := if okB n e d = true then powI v e n else -1

theorem k_bb {w a b : World} (h : Below w.heap.size w a) (k : Below a.heap.size a b) : Below w.heap.size w b := h.trans (k.mono h.size)

theorem cKeyOkI (n e d : Int) (w : World) :
    Calls Tryz.prog 81 #[.agg #[.int .i64 n, .int .i64 e, .int .i64 d]] w fun x w' => x = .returned (.bool (okB n e d)) ∧ Below w.heap.size w w' := by
  have CW := fun w => cWholeOf n e d w
  have CK := fun w => cOk n e d w
  generalize okB n e d = B at *
  go_enter Tryz.func81, Tryz.ntmps81
  go_wp2_with fail
  refine (CW _).mono ?_
  rintro x w1 ⟨rfl, hb⟩
  have HB : Hid (Below w.heap.size w w1) := ((Below.refl _ _).alloc (Nat.le_refl _) _).trans (hb.mono (by simp))
  go_wp2_with fail
  refine (CK _).mono ?_
  rintro x w2 ⟨rfl, hb2⟩
  go_wp2_with fail
  go_ret
  exact ⟨rfl, k_bb HB.out hb2⟩

end Go.Proofs.YtgdfeicojgnoaaaGreatDoor

namespace Go.Proofs.YtgdfeicojgnoaaaGreatDoor
open Go.RowKit
set_option linter.unusedVariables false
set_option linter.unusedSimpArgs false

set_option maxHeartbeats 1000000 in
theorem cPubB (n e d : Int) (w : World) :
    Calls Tryz.prog 83 #[.agg #[.int .i64 n, .int .i64 e, .int .i64 d]] w fun x w' => x = .returned (.bool (opB n e)) ∧ Below w.heap.size w w' := by
  have C1 := fun w => cIn5 n 2147483648 3000000000 w
  by_cases hr : 2147483648 ≤ n ∧ n ≤ 3000000000
  · rw [dec_t hr] at C1
    have C2 := fun w => cIn5 e 3 (n - 1) w
    obtain ⟨B, hB⟩ : ∃ B, opB n e = B := ⟨_, rfl⟩
    have hq : decide (3 ≤ e ∧ e ≤ n - 1) = B := by
      rw [← hB]; unfold opB
      rw [Bool.eq_iff_iff]; simp [hr]; omega
    rw [hq] at C2
    rw [hB]
    have e1 : wrap64 (n - 1) = n - 1 := IntWalk.wrap64_in _ (by omega)
    have e2 : IntKind.i64.wrap (n - 1) = n - 1 := IntWalk.i64_in _ (by omega)
    clear hq hB
    go_enter Tryz.func83, Tryz.ntmps83
    go_wp2_with fail
    refine (C1 _).mono ?_
    rintro x w1 ⟨rfl, rfl⟩
    go_wp2_with fail
    refine (C2 _).mono ?_
    rintro x w1 ⟨rfl, rfl⟩
    go_wp2_with fail
    go_ret
    exact ⟨rfl, (Below.refl _ _).alloc (Nat.le_refl _) _⟩
  · rw [dec_f hr] at C1
    rw [show opB n e = false from dec_f (fun x => hr x.1)]
    clear hr
    go_enter Tryz.func83, Tryz.ntmps83
    go_wp2_with fail
    refine (C1 _).mono ?_
    rintro x w1 ⟨rfl, rfl⟩
    go_wp2_with fail
    go_ret
    exact ⟨rfl, (Below.refl _ _).alloc (Nat.le_refl _) _⟩

set_option maxHeartbeats 1000000 in
theorem cKeyOkS (n e d : Int) (w : World) :
    Calls Tryz.prog 44 #[.agg #[.int .i64 n, .int .i64 e, .int .i64 d]] w fun x w' => x = .returned (.bool (okB n e d)) ∧ Below w.heap.size w w' := by
  have C1 := fun w => cPubB n e d w
  by_cases h : opB n e = true
  · have h' : (2147483648 ≤ n ∧ n ≤ 3000000000) ∧ 3 ≤ e ∧ e < n := of_decide_eq_true h
    rw [h] at C1
    by_cases hd : d = 0
    · rw [show okB n e d = true from dec_t ⟨h', .inl hd⟩]
      have he : (d == 0) = true := by simpa using hd
      clear hd h h'
      go_enter Tryz.func44, Tryz.ntmps44
      go_wp2_with fail
      refine (C1 _).mono ?_
      rintro x w1 ⟨rfl, hb⟩
      obtain ⟨hc, hf⟩ := k_bcell hb
      go_wp2_with fail
      go_ret
      exact ⟨rfl, ((Below.refl _ _).alloc (Nat.le_refl _) _).trans (hb.mono (by simp))⟩
    · have C2 := fun w => cIn5 d 3 (n - 1) w
      obtain ⟨B, hB⟩ : ∃ B, okB n e d = B := ⟨_, rfl⟩
      have hq : decide (3 ≤ d ∧ d ≤ n - 1) = B := by
        rw [← hB]; unfold okB
        rw [Bool.eq_iff_iff]; simp [h', hd]; omega
      rw [hq] at C2
      rw [hB]
      have e1 : wrap64 (n - 1) = n - 1 := IntWalk.wrap64_in _ (by omega)
      have e2 : IntKind.i64.wrap (n - 1) = n - 1 := IntWalk.i64_in _ (by omega)
      have he : (d == 0) = false := by simpa using hd
      clear hd hq hB h h'
      go_enter Tryz.func44, Tryz.ntmps44
      go_wp2_with fail
      refine (C1 _).mono ?_
      rintro x w1 ⟨rfl, hb⟩
      obtain ⟨hc, hf⟩ := k_bcell hb
      have HB : Hid (Below w.heap.size w w1) := ((Below.refl _ _).alloc (Nat.le_refl _) _).trans (hb.mono (by simp))
      go_wp2_with fail
      refine (C2 _).mono ?_
      rintro x w2 ⟨rfl, rfl⟩
      go_wp2_with fail
      go_ret
      exact ⟨rfl, HB.out⟩
  · have h : opB n e = false := by simpa using h
    have h' : ¬ ((2147483648 ≤ n ∧ n ≤ 3000000000) ∧ 3 ≤ e ∧ e < n) := of_decide_eq_false h
    rw [h] at C1
    rw [show okB n e d = false from dec_f (fun x => h' x.1)]
    clear h h'
    go_enter Tryz.func44, Tryz.ntmps44
    go_wp2_with fail
    refine (C1 _).mono ?_
    rintro x w1 ⟨rfl, hb⟩
    go_wp2_with fail
    go_ret
    exact ⟨rfl, ((Below.refl _ _).alloc (Nat.le_refl _) _).trans (hb.mono (by simp))⟩

set_option maxHeartbeats 1000000 in
theorem cPublicS (n e d : Int) (w : World) :
    Calls Tryz.prog 94 #[.agg #[.int .i64 n, .int .i64 e, .int .i64 d]] w fun x w' => x = .returned (.agg #[.int .i64 (pubN n e), .int .i64 (pubE n e), .int .i64 0]) ∧ Below w.heap.size w w' := by
  have CO := fun w => cPubB n e d w
  by_cases h : opB n e = true
  · rw [show pubN n e = n by unfold pubN; rw [if_pos h], show pubE n e = e by unfold pubE; rw [if_pos h]]
    rw [h] at CO
    go_enter Tryz.func94, Tryz.ntmps94
    go_wp2_with fail
    refine (CO _).mono ?_
    rintro x w1 ⟨rfl, hb⟩
    obtain ⟨hc, hf⟩ := k_bcell hb
    have HB : Hid (Below w.heap.size w w1) := (((Below.refl _ _).alloc (Nat.le_refl _) _).alloc (by simp) _).trans (hb.mono (by simp; omega))
    have hz : w.heap.size + 1 < w1.heap.size := by have := hb.size; simp at this; omega
    have hz0 : w.heap.size < w1.heap.size := by omega
    go_wp2_with fail
    refine bodyPost_ret (v := .agg #[.int .i64 n, .int .i64 e, .int .i64 0]) (by simp [results, Tryz.results94, go_sem, hc, hz, hz0]) rfl ⟨rfl, ?_⟩
    repeat first | exact HB.out | refine Below.setCell ?_ (by simp; try omega) _ | refine Below.alloc ?_ (by simp; try omega) _
  · rw [show pubN n e = 0 by unfold pubN; rw [if_neg h], show pubE n e = 0 by unfold pubE; rw [if_neg h]]
    have h : opB n e = false := by simpa using h
    rw [h] at CO
    go_enter Tryz.func94, Tryz.ntmps94
    go_wp2_with fail
    refine (CO _).mono ?_
    rintro x w1 ⟨rfl, hb⟩
    obtain ⟨hc, hf⟩ := k_bcell hb
    have HB : Hid (Below w.heap.size w w1) := (((Below.refl _ _).alloc (Nat.le_refl _) _).alloc (by simp) _).trans (hb.mono (by simp; omega))
    have hz : w.heap.size + 1 < w1.heap.size := by have := hb.size; simp at this; omega
    have hz0 : w.heap.size < w1.heap.size := by omega
    go_wp2_with fail
    refine bodyPost_ret (v := .agg #[.int .i64 0, .int .i64 0, .int .i64 0]) (by simp [results, Tryz.results94, go_sem, hc, hz, hz0]) rfl ⟨rfl, ?_⟩
    repeat first | exact HB.out | refine Below.setCell ?_ (by simp; try omega) _ | refine Below.alloc ?_ (by simp; try omega) _

theorem lk_ok (n e d : Int) : lkB n e d = (okB n e d && !(d == 0)) := by
  unfold lkB okB
  rw [Bool.eq_iff_iff]
  simp
  omega

end Go.Proofs.YtgdfeicojgnoaaaGreatDoor

namespace Go.Proofs.YtgdfeicojgnoaaaGreatDoor
open Go.RowKit
set_option linter.unusedVariables false
set_option linter.unusedSimpArgs false

/-- A number up to the greatest modulus. -/
def upOk (a : Int) : Prop := 0 ≤ a ∧ a ≤ 3000000000

noncomputable def gcdI (a b : Int) : Int := open Classical in if upOk a ∧ upOk b then (Nat.gcd a.toNat b.toNat : Nat) else -1

theorem gcdI_ok {a b : Int} (h : upOk a) (k : upOk b) : gcdI a b = (Nat.gcd a.toNat b.toNat : Nat) := by
  unfold gcdI
  rw [if_pos ⟨h, k⟩]

theorem gcdI_no1 {a b : Int} (h : ¬ upOk a) : gcdI a b = -1 := by
  unfold gcdI
  rw [if_neg (fun x => h x.1)]

theorem gcdI_no2 {a b : Int} (h : ¬ upOk b) : gcdI a b = -1 := by
  unfold gcdI
  rw [if_neg (fun x => h x.2)]

theorem gcd_step (a b : Nat) : Nat.gcd b (a % b) = Nat.gcd a b := by
  rw [Nat.gcd_comm b (a % b), ← Nat.gcd_rec, Nat.gcd_comm]

theorem rem_tmod (a b : Nat) : (a : Int).tmod (b : Int) = ((a % b : Nat) : Int) := (Int.ofNat_tmod a b).symm

theorem quo_tdiv (a b : Nat) : (a : Int).tdiv (b : Int) = ((a / b : Nat) : Int) := (Int.ofNat_tdiv a b).symm

set_option maxHeartbeats 1000000 in
theorem cGcdL (a b : Nat) (w : World) (ha : a ≤ 3000000000) (hb : b ≤ 3000000000) :
    Calls Tryz.prog 158 #[.int .i64 a, .int .i64 b] w fun e w' => e = .returned (.int .i64 (Nat.gcd a b : Nat)) ∧ w' = w := by
  obtain ⟨R, hR⟩ : ∃ R : Nat, Nat.gcd a b = R := ⟨_, rfl⟩
  have HR : Hid (Nat.gcd a b = R) := hR
  rw [hR]
  clear hR
  go_enter Tryz.func158, Tryz.ntmps158
  go_wp2
  go_loop [0, 1] (fun x y => ∃ a' b' : Nat, x = .int .i64 (a' : Int) ∧ y = .int .i64 (b' : Int) ∧ a' ≤ 3000000000 ∧ b' ≤ 3000000000 ∧ Hid (Nat.gcd a' b' = R)) (fun _ y => (intOf y).toNat)
  case atStart => exact ⟨a, b, rfl, rfl, ha, hb, HR⟩
  case round =>
    obtain ⟨a', b', rfl, rfl, ha', hb', HG⟩ := hrel
    by_cases hz : b' = 0
    · subst hz
      have := HG.out
      rw [Nat.gcd_zero_right] at this
      subst this
      clear HG
      go_wp2
      go_ret
      exact ⟨rfl, rfl⟩
    · have hpos : decide ((0 : Int) < (b' : Int)) = true := by simp; omega
      have hne : ¬ (b' : Int) = 0 := by omega
      have hm := rem_tmod a' b'
      have hlt : a' % b' < b' := Nat.mod_lt _ (by omega)
      have HN : Hid (Nat.gcd b' (a' % b') = R) := by
        have := gcd_step a' b'
        rw [HG.out] at this
        exact this
      generalize a' % b' = r at *
      have e4 : wrap64 (r : Int) = (r : Int) := IntWalk.wrap64_in _ (by omega)
      clear HG
      go_wp2
      go_round
      case rel => exact ⟨b', r, rfl, rfl, hb', by omega, HN⟩
      case measure => simp [intOf]; omega

theorem small64 (k : Nat) (h : k ≤ 3000000000) : wrap64 (k : Int) = (k : Int) ∧ IntKind.i64.wrap (k : Int) = (k : Int) :=
  ⟨IntWalk.wrap64_in _ (by omega), IntWalk.i64_in _ (by omega)⟩

theorem great_facts (g r : Nat) (hg : g ≤ 3000000000) (hr : r ≤ 3000000000) (hz : ¬ r = 0) : ∃ q k P : Nat, g % r = k ∧ k < r ∧ (g : Int).tdiv (r : Int) = (q : Int) ∧ wrap64 (q : Int) = (q : Int)
    ∧ wrap64 ((q : Int) * (r : Int)) = (P : Int) ∧ IntKind.i64.wrap ((q : Int) * (r : Int)) = (P : Int) ∧ wrap64 ((g : Int) - (P : Int)) = (k : Int) ∧ IntKind.i64.wrap ((g : Int) - (P : Int)) = (k : Int) := by
  have hdm := Nat.div_add_mod g r
  have hlt : g % r < r := Nat.mod_lt _ (Nat.pos_of_ne_zero hz)
  have hq : g / r ≤ 3000000000 := Nat.le_trans (Nat.div_le_self g r) hg
  have hP : r * (g / r) ≤ 3000000000 := Nat.le_trans (Nat.mul_div_le g r) hg
  have hk : g % r ≤ 3000000000 := Nat.le_trans (Nat.mod_le g r) hg
  have ePi : ((g / r : Nat) : Int) * (r : Int) = ((r * (g / r) : Nat) : Int) := by rw [Int.mul_comm]; simp
  have eS : (g : Int) - ((r * (g / r) : Nat) : Int) = ((g % r : Nat) : Int) := by
    have : (g : Int) = ((r * (g / r) + g % r : Nat) : Int) := by rw [hdm]
    rw [this, Int.natCast_add]
    generalize ((r * (g / r) : Nat) : Int) = x; generalize ((g % r : Nat) : Int) = y; omega
  refine ⟨g / r, g % r, r * (g / r), rfl, hlt, quo_tdiv g r, (small64 _ hq).1, ?_, ?_, ?_, ?_⟩
  · rw [ePi]; exact (small64 _ hP).1
  · rw [ePi]; exact (small64 _ hP).2
  · rw [eS]; exact (small64 _ hk).1
  · rw [eS]; exact (small64 _ hk).2

theorem boxes2 (w : World) (a b : Int) :
    (box (box (box w a) b) 0).cell? ⟨w.heap.size, 0, none⟩ = some (.int .i64 a) ∧ (box (box (box w a) b) 0).cell? ⟨w.heap.size + 1, 0, none⟩ = some (.int .i64 b) ∧ Below w.heap.size w (box (box w a) b) := by
  have s1 : (box w a).heap.size = w.heap.size + 1 := by simp
  have s2 : (box (box w a) b).heap.size = w.heap.size + 2 := by simp
  have b1 := box_below w a
  have b2 := box_below (box w a) b
  have b3 := box_below (box (box w a) b) 0
  refine ⟨?_, ?_, below2 b1 b2⟩
  · rw [b3.cell (p := ⟨w.heap.size, 0, none⟩) (by rw [s2]; simp), b2.cell (p := ⟨w.heap.size, 0, none⟩) (by rw [s1]; simp)]
    exact box_cell w a
  · rw [b3.cell (p := ⟨w.heap.size + 1, 0, none⟩) (by rw [s2]; simp), ← s1]
    exact box_cell _ b

end Go.Proofs.YtgdfeicojgnoaaaGreatDoor
