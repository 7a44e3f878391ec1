/- Contracts of Gcd, of the program and of the specification: one answer. -/
import Derived.Test.YtfglgadmcgkjkaaPTimes
namespace Go.Proofs.Ytfglgadmcgkjkaa
open Go.RowKit
set_option linter.unusedVariables false
set_option linter.unusedSimpArgs false

/-- A number up to the greatest modulus. -/
def upOk (a : Int) : Prop := 0 ≤ a ∧ a ≤ 3000000000

noncomputable def gcdI (a b : Int) : Int := open Classical in if upOk a ∧ upOk b then (Nat.gcd a.toNat b.toNat : Nat) else -1

theorem gcdI_ok {a b : Int} (h : upOk a) (k : upOk b) : gcdI a b = (Nat.gcd a.toNat b.toNat : Nat) := by
  unfold gcdI
  rw [if_pos ⟨h, k⟩]

theorem gcdI_no1 {a b : Int} (h : ¬ upOk a) : gcdI a b = -1 := by
  unfold gcdI
  rw [if_neg (fun x => h x.1)]

theorem gcdI_no2 {a b : Int} (h : ¬ upOk b) : gcdI a b = -1 := by
  unfold gcdI
  rw [if_neg (fun x => h x.2)]

theorem gcd_step (a b : Nat) : Nat.gcd b (a % b) = Nat.gcd a b := by
  rw [Nat.gcd_comm b (a % b), ← Nat.gcd_rec, Nat.gcd_comm]

theorem rem_tmod (a b : Nat) : (a : Int).tmod (b : Int) = ((a % b : Nat) : Int) := (Int.ofNat_tmod a b).symm

theorem quo_tdiv (a b : Nat) : (a : Int).tdiv (b : Int) = ((a / b : Nat) : Int) := (Int.ofNat_tdiv a b).symm

set_option maxHeartbeats 1000000 in
theorem cGcdL (a b : Nat) (w : World) (ha : a ≤ 3000000000) (hb : b ≤ 3000000000) :
    Calls Try.prog 59 #[.int .i64 a, .int .i64 b] w fun e w' => e = .returned (.int .i64 (Nat.gcd a b : Nat)) ∧ w' = w := by
  obtain ⟨R, hR⟩ : ∃ R : Nat, Nat.gcd a b = R := ⟨_, rfl⟩
  have HR : Hid (Nat.gcd a b = R) := hR
  rw [hR]
  clear hR
  go_enter Try.func59, Try.ntmps59
  go_wp2
  go_loop [0, 1] (fun x y => ∃ a' b' : Nat, x = .int .i64 (a' : Int) ∧ y = .int .i64 (b' : Int) ∧ a' ≤ 3000000000 ∧ b' ≤ 3000000000 ∧ Hid (Nat.gcd a' b' = R)) (fun _ y => (intOf y).toNat)
  case atStart => exact ⟨a, b, rfl, rfl, ha, hb, HR⟩
  case round =>
    obtain ⟨a', b', rfl, rfl, ha', hb', HG⟩ := hrel
    by_cases hz : b' = 0
    · subst hz
      have := HG.out
      rw [Nat.gcd_zero_right] at this
      subst this
      clear HG
      go_wp2
      go_ret
      exact ⟨rfl, rfl⟩
    · have hpos : decide ((0 : Int) < (b' : Int)) = true := by simp; omega
      have hne : ¬ (b' : Int) = 0 := by omega
      have hm := rem_tmod a' b'
      have hlt : a' % b' < b' := Nat.mod_lt _ (by omega)
      have HN : Hid (Nat.gcd b' (a' % b') = R) := by
        have := gcd_step a' b'
        rw [HG.out] at this
        exact this
      generalize a' % b' = r at *
      have e4 : wrap64 (r : Int) = (r : Int) := IntWalk.wrap64_in _ (by omega)
      clear HG
      go_wp2
      go_round
      case rel => exact ⟨b', r, rfl, rfl, hb', by omega, HN⟩
      case measure => simp [intOf]; omega

theorem small64 (k : Nat) (h : k ≤ 3000000000) : wrap64 (k : Int) = (k : Int) ∧ IntKind.i64.wrap (k : Int) = (k : Int) :=
  ⟨IntWalk.wrap64_in _ (by omega), IntWalk.i64_in _ (by omega)⟩

theorem great_facts (g r : Nat) (hg : g ≤ 3000000000) (hr : r ≤ 3000000000) (hz : ¬ r = 0) : ∃ q k P : Nat, g % r = k ∧ k < r ∧ (g : Int).tdiv (r : Int) = (q : Int) ∧ wrap64 (q : Int) = (q : Int)
    ∧ wrap64 ((q : Int) * (r : Int)) = (P : Int) ∧ IntKind.i64.wrap ((q : Int) * (r : Int)) = (P : Int) ∧ wrap64 ((g : Int) - (P : Int)) = (k : Int) ∧ IntKind.i64.wrap ((g : Int) - (P : Int)) = (k : Int) := by
  have hdm := Nat.div_add_mod g r
  have hlt : g % r < r := Nat.mod_lt _ (Nat.pos_of_ne_zero hz)
  have hq : g / r ≤ 3000000000 := Nat.le_trans (Nat.div_le_self g r) hg
  have hP : r * (g / r) ≤ 3000000000 := Nat.le_trans (Nat.mul_div_le g r) hg
  have hk : g % r ≤ 3000000000 := Nat.le_trans (Nat.mod_le g r) hg
  have ePi : ((g / r : Nat) : Int) * (r : Int) = ((r * (g / r) : Nat) : Int) := by rw [Int.mul_comm]; simp
  have eS : (g : Int) - ((r * (g / r) : Nat) : Int) = ((g % r : Nat) : Int) := by
    have : (g : Int) = ((r * (g / r) + g % r : Nat) : Int) := by rw [hdm]
    rw [this, Int.natCast_add]
    generalize ((r * (g / r) : Nat) : Int) = x; generalize ((g % r : Nat) : Int) = y; omega
  refine ⟨g / r, g % r, r * (g / r), rfl, hlt, quo_tdiv g r, (small64 _ hq).1, ?_, ?_, ?_, ?_⟩
  · rw [ePi]; exact (small64 _ hP).1
  · rw [ePi]; exact (small64 _ hP).2
  · rw [eS]; exact (small64 _ hk).1
  · rw [eS]; exact (small64 _ hk).2

set_option maxHeartbeats 2000000 in
/-- The greatest that goes into both, and some factor. -/
theorem cGreat (a b : Nat) (w : World) (ha : a ≤ 3000000000) (hb : b ≤ 3000000000) :
    Calls Try.prog 54 #[.int .i64 a, .int .i64 b] w fun e w' => ∃ f : Int, e = .returned (.tuple #[.int .i64 (Nat.gcd a b : Nat), .int .i64 f]) ∧ w' = w := by
  obtain ⟨R, hR⟩ : ∃ R : Nat, Nat.gcd a b = R := ⟨_, rfl⟩
  have HR : Hid (Nat.gcd b a = R) := by rw [Nat.gcd_comm]; exact hR
  rw [hR]
  clear hR
  go_enter Try.func54, Try.ntmps54
  go_wp2
  go_loop [6, 7, 8, 9] (fun x y u v => ∃ (g r : Nat) (f n : Int), x = .int .i64 (g : Int) ∧ y = .int .i64 (r : Int) ∧ u = .int .i64 f ∧ v = .int .i64 n ∧ g ≤ 3000000000 ∧ r ≤ 3000000000 ∧ Hid (Nat.gcd g r = R)) (fun _ y _ _ => (intOf y).toNat)
  case atStart => exact ⟨b, a, 0, 1, rfl, rfl, rfl, rfl, hb, ha, HR⟩
  case round =>
    obtain ⟨g, r, f, n, rfl, rfl, rfl, rfl, hg, hr, HG⟩ := hrel
    by_cases hz : r = 0
    · subst hz
      have := HG.out
      rw [Nat.gcd_zero_right] at this
      subst this
      clear HG
      go_wp2
      go_ret2
      exact ⟨⟨f, rfl⟩, rfl⟩
    · have hne : ¬ (r : Int) = 0 := by omega
      have hq : ((r : Int) != 0) = true := by simp; omega
      have HN0 := gcd_step g r
      rw [HG.out] at HN0
      obtain ⟨q, k, P, hk, hkr, ht, w1, w2, w3, w4, w5⟩ := great_facts g r hg hr hz
      have HN : Hid (Nat.gcd r k = R) := by rw [hk] at HN0; exact HN0
      clear HG HN0 hk
      go_wp2
      go_round
      case rel => exact ⟨r, k, n, _, rfl, rfl, rfl, rfl, hr, by omega, HN⟩
      case measure => simp [intOf]; omega

theorem boxes2 (w : World) (a b : Int) :
    (box (box (box w a) b) 0).cell? ⟨w.heap.size, 0, none⟩ = some (.int .i64 a) ∧ (box (box (box w a) b) 0).cell? ⟨w.heap.size + 1, 0, none⟩ = some (.int .i64 b) ∧ Below w.heap.size w (box (box w a) b) := by
  have s1 : (box w a).heap.size = w.heap.size + 1 := by simp
  have s2 : (box (box w a) b).heap.size = w.heap.size + 2 := by simp
  have b1 := box_below w a
  have b2 := box_below (box w a) b
  have b3 := box_below (box (box w a) b) 0
  refine ⟨?_, ?_, below2 b1 b2⟩
  · rw [b3.cell (p := ⟨w.heap.size, 0, none⟩) (by rw [s2]; simp), b2.cell (p := ⟨w.heap.size, 0, none⟩) (by rw [s1]; simp)]
    exact box_cell w a
  · rw [b3.cell (p := ⟨w.heap.size + 1, 0, none⟩) (by rw [s2]; simp), ← s1]
    exact box_cell _ b

end Go.Proofs.Ytfglgadmcgkjkaa
