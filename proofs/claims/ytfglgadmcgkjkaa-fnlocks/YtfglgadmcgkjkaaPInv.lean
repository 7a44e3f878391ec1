/- Contracts of Inverse, of the program and of the specification: one answer. -/
import Derived.Test.YtfglgadmcgkjkaaPInvM
namespace Go.Proofs.Ytfglgadmcgkjkaa
open Go.RowKit
set_option linter.unusedVariables false
set_option linter.unusedSimpArgs false

/-- The factor that the loop leaves. -/
def KeptE (a n R : Nat) (f : Int) : Prop := ∃ y : Int, Kept a n R 0 f y

set_option maxHeartbeats 2000000 in
/-- The greatest that goes into both, and a factor by which a leaves it modulo n. -/
theorem cGreatF (a n : Nat) (w : World) (ha : a ≤ 3000000000) (hn1 : 1 ≤ n) (hn : n ≤ 3000000000) :
    Calls Try.prog 54 #[.int .i64 a, .int .i64 n] w fun e w' => ∃ f : Int, e = .returned (.tuple #[.int .i64 (Nat.gcd a n : Nat), .int .i64 f]) ∧ KeptE a n (Nat.gcd a n) f ∧ w' = w := by
  obtain ⟨R, hR⟩ : ∃ R : Nat, Nat.gcd a n = R := ⟨_, rfl⟩
  have HR : Hid (Nat.gcd n a = R) := by rw [Nat.gcd_comm]; exact hR
  rw [hR]
  clear hR
  have HK : Hid (Kept a n n a 0 1) := kept_impl a n hn1
  go_enter Try.func54, Try.ntmps54
  go_wp2
  go_loop [6, 7, 8, 9] (fun x y u v => ∃ (g r : Nat) (f m : Int), x = .int .i64 (g : Int) ∧ y = .int .i64 (r : Int) ∧ u = .int .i64 f ∧ v = .int .i64 m ∧ g ≤ 3000000000 ∧ r ≤ 3000000000 ∧ Hid (Nat.gcd g r = R) ∧ Hid (Kept a n g r f m)) (fun _ y _ _ => (intOf y).toNat)
  case atStart => exact ⟨n, a, 0, 1, rfl, rfl, rfl, rfl, hn, ha, HR, HK⟩
  case round =>
    obtain ⟨g, r, f, m, rfl, rfl, rfl, rfl, hg, hr, HG, HK'⟩ := hrel
    by_cases hz : r = 0
    · subst hz
      have := HG.out
      rw [Nat.gcd_zero_right] at this
      subst this
      clear HG
      go_wp2
      go_ret2
      exact ⟨f, rfl, ⟨m, HK'.out⟩, rfl⟩
    · have hne : ¬ (r : Int) = 0 := by omega
      have hq : ((r : Int) != 0) = true := by simp; omega
      have HN0 := gcd_step g r
      rw [HG.out] at HN0
      obtain ⟨q, k, P, hqq, hk, hkr, ht, w1, w2, w3, w4, w5⟩ := great_facts2 g r hg hr hz
      obtain ⟨K1, K2⟩ := HK'.out.step (by omega)
      rw [hqq, hk] at K1
      rw [hqq] at K2
      obtain ⟨M, Z, hZ, m1, m2, m3, m4⟩ := fac_facts q n f m hn K2 K1.2.2.2.2.2
      rw [hZ] at K1
      have HN : Hid (Nat.gcd r k = R) := by rw [hk] at HN0; exact HN0
      have HK2 : Hid (Kept a n r k m Z) := K1
      clear HG HN0 hk hqq HK' K1 K2 hZ
      go_wp2
      go_round
      case rel => exact ⟨r, k, m, Z, rfl, rfl, rfl, rfl, hr, by omega, HN, HK2⟩
      case measure => simp [intOf]; omega

theorem cInv1 (a n : Int) (pa pn : Addr) (w : World) (ha : w.cell? pa = some (.int .i64 a)) (hn : w.cell? pn = some (.int .i64 n)) :
    Calls Try.prog 52 #[.pointer (some pa), .pointer (some pn)] w fun e w' => (e = .returned (.int .i64 (invI a n)) ∨ e = refusal (invI a n)) ∧ w' = w := by
  by_cases h1 : restOk a n
  · have g1 := h1
    obtain ⟨⟨n1, n2⟩, a1, a2⟩ := g1
    obtain ⟨A, rfl⟩ : ∃ A : Nat, a = A := ⟨a.toNat, by omega⟩
    obtain ⟨N, rfl⟩ : ∃ N : Nat, n = N := ⟨n.toNat, by omega⟩
    have C := fun w => cGreatF A N w (by omega) (by omega) (by omega)
    by_cases hg : Nat.gcd A N = 1
    · rw [hg] at C
      obtain ⟨I, hI⟩ : ∃ I : Int, invI A N = I := ⟨_, rfl⟩
      have HV : Hid (invI A N = I) := hI
      rw [hI]
      clear hI
      go_enter Try.func52, Try.ntmps52
      go_wp2_with fail
      refine (cNeedRest_ok A N 0 _ h1).mono ?_
      rintro e w' ⟨rfl, rfl⟩
      go_wp2_with fail
      refine (C _).mono ?_
      rintro e w' ⟨f, rfl, ⟨y, hK⟩, rfl⟩
      obtain ⟨hf, i1, i2⟩ := kept_end hK h1
      rw [HV.out] at i1 i2
      have HI1 : Hid (f < 0 → I = f + N) := i1
      have HI2 : Hid (¬ f < 0 → I = f) := i2
      clear hK C i1 i2
      go_wp2_with fail
      refine (cNeed_ok _ _).mono ?_
      rintro e w' ⟨rfl, rfl⟩
      by_cases hneg : f < 0
      · have hd : decide (f < 0) = true := decide_eq_true hneg
        have hI := HI1.out hneg
        have e1 : wrap64 (f + (N : Int)) = f + (N : Int) := IntWalk.wrap64_in _ (by omega)
        have e2 : IntKind.i64.wrap (f + (N : Int)) = f + (N : Int) := IntWalk.i64_in _ (by omega)
        have HI : Hid (I = f + N) := hI
        clear hI
        go_wp2_with fail
        go_ret
        exact ⟨.inl (by rw [HI.out]; rfl), rfl⟩
      · have hd : decide (f < 0) = false := decide_eq_false hneg
        have hI := HI2.out (by omega)
        subst hI
        go_wp2_with fail
        go_ret
        exact ⟨.inl rfl, rfl⟩
    · rw [invI_gcd (by simpa using hg)]
      have hd : (((Nat.gcd A N : Nat) : Int) == 1) = false := by simp; omega
      generalize Nat.gcd A N = R at *
      go_enter Try.func52, Try.ntmps52
      go_wp2_with fail
      refine (cNeedRest_ok A N 0 _ h1).mono ?_
      rintro e w' ⟨rfl, rfl⟩
      go_wp2_with fail
      refine (C _).mono ?_
      rintro e w' ⟨f, rfl, hK, rfl⟩
      clear hK C
      go_wp2_with fail
      refine (cNeed_no _ _).mono ?_
      rintro e w' ⟨rfl, rfl⟩
      exact ⟨rfl, .inr rfl, rfl⟩
  · rw [invI_range h1]
    go_enter Try.func52, Try.ntmps52
    go_wp2_with fail
    refine (cNeedRest_no a n 0 _ h1).mono ?_
    rintro e w' ⟨rfl, rfl⟩
    exact ⟨rfl, .inr rfl, rfl⟩

theorem cInvI (a n : Int) (w : World) :
    Calls Try.prog 33 #[.int .i64 a, .int .i64 n] w fun e w' => e = .returned (.int .i64 (invI a n)) ∧ Below w.heap.size w w' := by
  have hmf : ∀ (fn : Fn) (first cap : Array Value) (w : World), (Instr.makeFunc fn first cap).run Try.prog w = .ok (.func fn first cap) w := fun _ _ _ _ => rfl
  have H : Calls Try.prog 51 #[.func (.func 52) #[] #[.pointer (some ⟨w.heap.size, 0, none⟩), .pointer (some ⟨w.heap.size + 1, 0, none⟩)]] (box (box w a) n) fun e w' => e = .returned (.int .i64 (invI a n)) ∧ Below w.heap.size w w' := by
    obtain ⟨ca, cn, hb⟩ := boxes2 w a n
    refine (cFace 52 _ (invI a n) (box (box w a) n) (fun w => face_enters Try.func52 (by kernel_rfl) rfl _ w) ?_).mono ?_
    · refine (cInv1 a n _ _ _ ca cn).mono ?_
      rintro e w' ⟨h, rfl⟩
      exact ⟨h, Below.refl _ _⟩
    · rintro e w' ⟨rfl, h⟩
      exact ⟨rfl, below2 hb h⟩
  generalize invI a n = x at *
  go_enter Try.func33, Try.ntmps33
  go_wp2_with fail
  refine H.mono ?_
  rintro e w' ⟨rfl, h⟩
  go_wp2_with fail
  go_ret
  exact ⟨rfl, h⟩

end Go.Proofs.Ytfglgadmcgkjkaa
