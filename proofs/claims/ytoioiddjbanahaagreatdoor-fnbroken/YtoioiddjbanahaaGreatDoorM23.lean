/-  -/
import Derived.Test.YtoioiddjbanahaaGreatDoorRows
import Derived.WalkKit
import Derived.Defers
import Derived.Recover
import Derived.Below
import Derived.Lib.BufferWrite
import Derived.WalkSmall
import Derived.IntWalk
set_option linter.unusedVariables false
set_option linter.unusedSimpArgs false
namespace Go.Proofs.YtoioiddjbanahaaGreatDoor

open Go.RowKit

theorem assert_ref (y : Int) (w : World) : (Instr.typeAssert (.iface 301 (.int .i64 y)) 20 301 true).run Tryz.prog w = .ok (.tuple #[.int .i64 y, .bool true]) w := by kernel_rfl

theorem assert_nil (w : World) : (Instr.typeAssert .nilIface 20 301 true).run Tryz.prog w = .ok (.tuple #[.int .i64 0, .bool false]) w := by kernel_rfl

theorem catch_panicking (p : Addr) (x y : Int) (older : List PanicEntry) (w : World) (hc : w.cell? p = some (.int .i64 x)) (hz : w.frozen? p = false) :
  CallsD Tryz.prog 279 #[.pointer (some p)] (.panicking ({ v := .iface 301 (.int .i64 y), recovered := false } :: older)) w fun e u' w' =>
   e = .returned (.tuple #[]) /\ u' = .panicking ({ v := .iface 301 (.int .i64 y), recovered := true } :: older) /\ w' = w.setCell p (.int .i64 y) := by
 refine callsD_of_wpS Tryz.func279 rfl fun c₀ cs hu => ?_
 have A1 := assert_ref y
 apply wpS_seq
 apply wpS_region
 simp [wpOpsS, go_sem, recoverD, hu, Tryz.ntmps279, Exit.thenS, A1]
 apply wpS_seq
 apply wpS_region
 simp [wpOpsS, go_sem, Exit.thenS]
 refine wpS_cond (t := true) (by simp [Act.eval, Array.replicate]) ?_
 simp only [if_true]
 apply wpS_region
 simp [wpOpsS, go_sem, hc, hz, bodyPostS, results, Tryz.results279]

theorem catch_idle (p : Addr) (w : World) :
  CallsD Tryz.prog 279 #[.pointer (some p)] .returning w fun e u' w' => e = .returned (.tuple #[]) /\ u' = .returning /\ w' = w := by
 refine callsD_of_wpS Tryz.func279 rfl fun c₀ cs hu => ?_
 have A1 := assert_nil
 apply wpS_seq
 apply wpS_region
 simp [wpOpsS, go_sem, recoverD, hu, Tryz.ntmps279, Exit.thenS, A1]
 apply wpS_seq
 apply wpS_region
 simp [wpOpsS, go_sem, Exit.thenS]
 refine wpS_cond (t := false) (by simp [Act.eval, Array.replicate]) ?_
 simp only [Bool.false_eq_true, if_false]
 refine wpS_of_wp (wp_skip ?_)
 cases c₀
 simp_all [bodyPostS, results, Tryz.results279]

abbrev refusal (y : Int) : Ending := .panicked [{ v := .iface 301 (.int .i64 y), recovered := false }]

theorem cNeed_ok (y : Int) (w : World) : Calls Tryz.prog 277 #[.bool true, .int .i64 y] w fun e w' => e = .returned (.tuple #[]) /\ w' = w := by
 go_enter Tryz.func277, Tryz.ntmps277
 go_wp2
 go_end0
 exact ⟨rfl, rfl⟩

theorem cNeed_no (y : Int) (w : World) : Calls Tryz.prog 277 #[.bool false, .int .i64 y] w fun e w' => e = refusal y /\ w' = w := by
 go_enter Tryz.func277, Tryz.ntmps277
 go_wp2
 exact ⟨rfl, rfl, rfl⟩

theorem face_enters {f : FuncId} {fn : Func} {c : Code} (hf : Tryz.prog.funcs[f]? = some fn) (hname : (fn.name == "runtime.NumGoroutine") = false) (hb : fn.body = some c) (args : Array Value) (w : World) :
  (callFunc f args).run Tryz.prog w = .ok (.enter f args) w := by
 have h1 : fn.name ≠ "runtime.NumGoroutine" := by simpa using hname
 simp [callFunc, hf, h1, hb]

theorem cFace (f : FuncId) (C : Array Value) (r : Int) (w : World) (he : ∀ w : World, (callFunc f C).run Tryz.prog w = .ok (.enter f C) w)
  (H : Calls Tryz.prog f C (w.alloc (.cells #[.int .i64 0] 2)) fun e w' => (e = .returned (.int .i64 r) \/ e = refusal r) /\ Below (w.heap.size + 1) (w.alloc (.cells #[.int .i64 0] 2)) w') :
  Calls Tryz.prog 274 #[.func (.func f) #[] C] w fun e w' => e = .returned (.int .i64 r) /\ Below w.heap.size w w' := by
 have hmf : ∀ (fn : Fn) (first cap : Array Value) (w : World), (Instr.makeFunc fn first cap).run Tryz.prog w = .ok (.func fn first cap) w := fun _ _ _ _ => rfl
 have k0 : (w.alloc (.cells #[.int .i64 0] 2)).cell? ⟨w.heap.size, 0, none⟩ = some (.int .i64 0) := by simp [go_sem]
 have HB : Hid (Below w.heap.size w (w.alloc (.cells #[.int .i64 0] 2))) := (Below.refl _ w).alloc (Nat.le_refl _) _
 obtain ⟨w1, hw1⟩ : ∃ w1, w.alloc (.cells #[.int .i64 0] 2) = w1 := ⟨_, rfl⟩
 have hh : w1.heap[w.heap.size]? = some (.cells #[.int .i64 0] 2 (0, 0)) := by rw [<- hw1]; exact heap_alloc_new _ _
 rw [hw1] at H HB k0
 go_enter_defers Tryz.func274, Tryz.ntmps274
 go_wp2_with fail
 refine H.mono ?_
 rintro e w2 ⟨h, hb⟩
 have hh2 : w2.heap[w.heap.size]? = some (.cells #[.int .i64 0] 2 (0, 0)) := (hb.block _ (by omega)).trans hh
 have c2 : w2.cell? ⟨w.heap.size, 0, none⟩ = some (.int .i64 0) := by rw [Lib.cell_of_heap hh2]; rfl
 have f2 : w2.frozen? ⟨w.heap.size, 0, none⟩ = false := Lib.frozen_of_heap hh2 0
 have HB2 : Hid (Below w.heap.size w w2) := HB.out.trans (hb.mono (by omega))
 rcases h with rfl | rfl
 ·go_wp2
  refine leaves_cons (f := 279) (args := #[.pointer (some ⟨w.heap.size, 0, none⟩)]) (by simp) (by simp [go_sem]) ?_
  refine (catch_idle ⟨w.heap.size, 0, none⟩ _).mono ?_
  rintro e u' w'' ⟨rfl, rfl, rfl⟩
  simp [Leaves, settle, results, Tryz.results274, go_sem, c2]
  exact HB2.out.setCell (p := ⟨w.heap.size, 0, none⟩) (Nat.le_refl _) _
 ·refine leaves_cons (f := 279) (args := #[.pointer (some ⟨w.heap.size, 0, none⟩)]) (by simp) (by simp [go_sem]) ?_
  refine (catch_panicking ⟨w.heap.size, 0, none⟩ 0 r [] _ c2 f2).mono ?_
  rintro e u' w'' ⟨rfl, rfl, rfl⟩
  simp [Leaves, settle, results, Tryz.results274, go_sem, c2]
  exact HB2.out.setCell (p := ⟨w.heap.size, 0, none⟩) (Nat.le_refl _) _

end Go.Proofs.YtoioiddjbanahaaGreatDoor

namespace Go.Proofs.YtoioiddjbanahaaGreatDoor

open Go.RowKit

def restOk (a n : Int) : Prop := (2 <= n /\ n <= 3000000000) /\ 0 <= a /\ a < n

def timesOf (a b n : Nat) : Nat := a * b % n

theorem cNeedRest_ok (a n y : Int) (w : World) (h : restOk a n) : Calls Tryz.prog 276 #[.int .i64 a, .int .i64 n, .int .i64 y] w fun e w' => e = .returned (.tuple #[]) /\ w' = w := by
 obtain ⟨⟨h1, h2⟩, h3, h4⟩ := h
 go_enter Tryz.func276, Tryz.ntmps276
 go_wp2_with fail
 refine (cNeed_ok _ _).mono ?_
 rintro e w' ⟨rfl, rfl⟩
 go_wp2_with fail
 refine (cNeed_ok _ _).mono ?_
 rintro e w' ⟨rfl, rfl⟩
 go_wp2_with fail
 go_end0
 exact ⟨rfl, rfl⟩

theorem cNeedRest_no (a n y : Int) (w : World) (h : ¬ restOk a n) : Calls Tryz.prog 276 #[.int .i64 a, .int .i64 n, .int .i64 y] w fun e w' => e = refusal y /\ w' = w := by
 by_cases h1 : 2 <= n
 ·by_cases h2 : n <= 3000000000
  ·by_cases h3 : 0 <= a
   ·have h4 : ¬ a < n := fun x => h ⟨⟨h1, h2⟩, h3, x⟩
    have h5 : decide (a < n) = false := decide_eq_false h4
    clear h
    go_enter Tryz.func276, Tryz.ntmps276
    go_wp2_with fail
    refine (cNeed_ok _ _).mono ?_
    rintro e w' ⟨rfl, rfl⟩
    go_wp2_with fail
    refine (cNeed_no _ _).mono ?_
    rintro e w' ⟨rfl, rfl⟩
    exact ⟨rfl, rfl, rfl⟩
   ·clear h
    go_enter Tryz.func276, Tryz.ntmps276
    go_wp2_with fail
    refine (cNeed_ok _ _).mono ?_
    rintro e w' ⟨rfl, rfl⟩
    go_wp2_with fail
    refine (cNeed_no _ _).mono ?_
    rintro e w' ⟨rfl, rfl⟩
    exact ⟨rfl, rfl, rfl⟩
  ·clear h
   go_enter Tryz.func276, Tryz.ntmps276
   go_wp2_with fail
   refine (cNeed_no _ _).mono ?_
   rintro e w' ⟨rfl, rfl⟩
   exact ⟨rfl, rfl, rfl⟩
 ·clear h
  go_enter Tryz.func276, Tryz.ntmps276
  go_wp2_with fail
  refine (cNeed_no _ _).mono ?_
  rintro e w' ⟨rfl, rfl⟩
  exact ⟨rfl, rfl, rfl⟩

theorem prod_facts (a b n : Nat) (hn : n <= 3000000000) (ha : a < n) (hb : b < n) : ∃ P : Nat, a * b = P /\ wrap64 ((a : Int) * (b : Int)) = (P : Int) /\ IntKind.i64.wrap ((a : Int) * (b : Int)) = (P : Int) /\ (P : Int).tmod (n : Int) = ((timesOf a b n : Nat) : Int) := by
 have h1 : a * b <= 2999999999 * 2999999999 := Nat.mul_le_mul (by omega) (by omega)
 refine ⟨a * b, rfl, ?_, ?_, ?_⟩
 ·have e : (a : Int) * (b : Int) = ((a * b : Nat) : Int) := by simp
  rw [e]
  exact IntWalk.wrap64_in _ (by omega)
 ·have e : (a : Int) * (b : Int) = ((a * b : Nat) : Int) := by simp
  rw [e]
  exact IntWalk.i64_in _ (by omega)
 ·exact (Int.ofNat_tmod (a * b) n).symm

theorem timesOf_lt (a b n : Nat) (hn : 0 < n) : timesOf a b n < n := Nat.mod_lt _ hn

theorem cProduct (a b n : Nat) (w : World) (h0 : 2 <= n) (hn : n <= 3000000000) (ha : a < n) (hb : b < n) :
  Calls Tryz.prog 280 #[.int .i64 a, .int .i64 b, .int .i64 n] w fun e w' => e = .returned (.int .i64 (timesOf a b n : Nat)) /\ w' = w := by
 obtain ⟨P, hP, e1, e2, e3⟩ := prod_facts a b n hn ha hb
 obtain ⟨R, hR⟩ : ∃ R : Nat, timesOf a b n = R := ⟨_, rfl⟩
 have hRn : R < n := hR ▸ timesOf_lt a b n (by omega)
 rw [hR] at e3 ⊢
 have e4 : wrap64 (R : Int) = (R : Int) := IntWalk.wrap64_in _ (by omega)
 have hz : ¬ (n : Int) = 0 := by omega
 clear hP hR
 go_enter Tryz.func280, Tryz.ntmps280
 go_wp2
 go_ret
 exact ⟨rfl, rfl⟩

abbrev box (w : World) (x : Int) : World := w.alloc (.cells #[.int .i64 x] 2)

theorem box_cell (w : World) (x : Int) : (box w x).cell? ⟨w.heap.size, 0, none⟩ = some (.int .i64 x) := by simp [go_sem]

theorem box_below (w : World) (x : Int) : Below w.heap.size w (box w x) := (Below.refl _ w).alloc (Nat.le_refl _) _

theorem below2 {w a b : World} (h : Below w.heap.size w a) (k : Below a.heap.size a b) : Below w.heap.size w b := h.trans (k.mono h.size)

theorem boxes3 (w : World) (a b n : Int) :
  (box (box (box (box w a) b) n) 0).cell? ⟨w.heap.size, 0, none⟩ = some (.int .i64 a) /\ (box (box (box (box w a) b) n) 0).cell? ⟨w.heap.size + 1, 0, none⟩ = some (.int .i64 b)
  /\ (box (box (box (box w a) b) n) 0).cell? ⟨w.heap.size + 2, 0, none⟩ = some (.int .i64 n) /\ Below w.heap.size w (box (box (box w a) b) n) := by
 have s1 : (box w a).heap.size = w.heap.size + 1 := by simp
 have s2 : (box (box w a) b).heap.size = w.heap.size + 2 := by simp
 have s3 : (box (box (box w a) b) n).heap.size = w.heap.size + 3 := by simp
 have b1 := box_below w a
 have b2 := box_below (box w a) b
 have b3 := box_below (box (box w a) b) n
 have b4 := box_below (box (box (box w a) b) n) 0
 refine ⟨?_, ?_, ?_, below2 (below2 b1 b2) b3⟩
 ·rw [b4.cell (p := ⟨w.heap.size, 0, none⟩) (by rw [s3]; simp), b3.cell (p := ⟨w.heap.size, 0, none⟩) (by rw [s2]; simp), b2.cell (p := ⟨w.heap.size, 0, none⟩) (by rw [s1]; simp)]
  exact box_cell w a
 ·rw [b4.cell (p := ⟨w.heap.size + 1, 0, none⟩) (by rw [s3]; simp), b3.cell (p := ⟨w.heap.size + 1, 0, none⟩) (by rw [s2]; simp), <- s1]
  exact box_cell _ b
 ·rw [b4.cell (p := ⟨w.heap.size + 2, 0, none⟩) (by rw [s3]; simp), <- s2]
  exact box_cell _ n

theorem cIn5 (x lo hi : Int) (w : World) :
  Calls Tryz.prog 39 #[.int .i64 x, .int .i64 lo, .int .i64 hi] w fun e w' => e = .returned (.bool (decide (lo <= x /\ x <= hi))) /\ w' = w := by
 go_enter Tryz.func39, Tryz.ntmps39
 go_wp2
 all_goals go_ret
 all_goals exact ⟨by congr 2; simp; try omega, rfl⟩

theorem cMod (n : Int) (w : World) :
  Calls Tryz.prog 206 #[.int .i64 n] w fun e w' => e = .returned (.bool (decide (2 <= n /\ n <= 3000000000))) /\ w' = w := by
 have C := fun w => cIn5 n 2 3000000000 w
 generalize decide (2 <= n /\ n <= 3000000000) = q at *
 go_enter Tryz.func206, Tryz.ntmps206
 go_wp2_with fail
 refine (C _).mono ?_
 rintro e w' ⟨rfl, rfl⟩
 go_wp2_with fail
 go_ret
 exact ⟨rfl, rfl⟩

end Go.Proofs.YtoioiddjbanahaaGreatDoor

namespace Go.Proofs.YtoioiddjbanahaaGreatDoor

def powOf (a e n : Nat) : Nat := a ^ e % n

theorem powOf_lt (a e n : Nat) (hn : 0 < n) : powOf a e n < n := Nat.mod_lt _ hn

theorem pow_sq (a k n : Nat) : (a * a % n) ^ k % n = a ^ (2 * k) % n := by
 rw [<- Nat.pow_mod, <- Nat.pow_two, <- Nat.pow_mul]

theorem pow_even (p a e n : Nat) (he : e % 2 = 0) : p * (a * a % n) ^ (e / 2) % n = p * a ^ e % n := by
 rw [Nat.mul_mod, pow_sq, <- Nat.mul_mod]
 have : 2 * (e / 2) = e := by omega
 rw [this]

theorem pow_odd (p a e n : Nat) (he : e % 2 = 1) : (p * a % n) * (a * a % n) ^ (e / 2) % n = p * a ^ e % n := by
 rw [Nat.mul_mod, pow_sq, Nat.mod_mod, <- Nat.mul_mod]
 have h : e = 2 * (e / 2) + 1 := by omega
 have h2 : a ^ e = a ^ (2 * (e / 2)) * a := by
  conv => lhs; rw [h, Nat.pow_succ]
 rw [h2, Nat.mul_assoc, Nat.mul_comm a (a ^ (2 * (e / 2)))]

theorem half_tdiv (e : Nat) : (e : Int).tdiv 2 = ((e / 2 : Nat) : Int) := (Int.ofNat_tdiv e 2).symm

theorem half_tmod (e : Nat) : (e : Int).tmod 2 = ((e % 2 : Nat) : Int) := (Int.ofNat_tmod e 2).symm

end Go.Proofs.YtoioiddjbanahaaGreatDoor

namespace Go.Proofs.YtoioiddjbanahaaGreatDoor

open Go.RowKit

theorem step_even (p a e n R : Nat) (he : e % 2 = 0) (hR : p * a ^ e % n = R) : p * (timesOf a a n) ^ (e / 2) % n = R := by
 unfold timesOf
 rw [pow_even p a e n he]
 exact hR

theorem step_odd (p a e n R : Nat) (he : e % 2 = 1) (hR : p * a ^ e % n = R) : timesOf p a n * (timesOf a a n) ^ (e / 2) % n = R := by
 unfold timesOf
 rw [pow_odd p a e n he]
 exact hR

theorem step_end (p a n R : Nat) (hp : p < n) (hR : p * a ^ 0 % n = R) : p = R := by
 rw [Nat.pow_zero, Nat.mul_one, Nat.mod_eq_of_lt hp] at hR
 exact hR

theorem step_start (a e n : Nat) : 1 * a ^ e % n = powOf a e n := by
 unfold powOf
 rw [Nat.one_mul]

set_option maxHeartbeats 2000000 in
theorem cPowerOf (a e n : Nat) (w : World) (h0 : 2 <= n) (hn : n <= 3000000000) (ha : a < n) (hE : (e : Int) <= 9223372036854775807) :
  Calls Tryz.prog 278 #[.int .i64 a, .int .i64 e, .int .i64 n] w fun x w' => x = .returned (.int .i64 (powOf a e n : Nat)) /\ w' = w := by
 have hst := step_start a e n
 have hlt := powOf_lt a e n (by omega)
 obtain ⟨R, hR⟩ : ∃ R : Nat, powOf a e n = R := ⟨_, rfl⟩
 rw [hR] at hst hlt ⊢
 have HS : Hid (1 * a ^ e % n = R) := hst
 clear hst hR
 go_enter Tryz.func278, Tryz.ntmps278
 go_wp2
 go_loop [0, 1, 7] (fun x y z => ∃ a' e' p' : Nat, x = .int .i64 (a' : Int) /\ y = .int .i64 (e' : Int) /\ z = .int .i64 (p' : Int) /\ a' < n /\ p' < n /\ e' <= e /\ Hid (p' * a' ^ e' % n = R)) (fun _ y _ => (intOf y).toNat)
 case atStart => exact ⟨a, e, 1, rfl, rfl, rfl, ha, by omega, Nat.le_refl _, HS⟩
 case round =>
  obtain ⟨a', e', p', rfl, rfl, rfl, ha', hp', he', HR⟩ := hrel
  have t1 := half_tdiv e'
  have t2 := half_tmod e'
  obtain ⟨d, hd⟩ : ∃ d : Nat, e' / 2 = d := ⟨_, rfl⟩
  have HD : Hid (e' / 2 = d) := hd
  rw [hd] at t1
  have C2 := fun w => cProduct a' a' n w h0 hn ha' ha'
  have l2 := timesOf_lt a' a' n (by omega)
  have C1 := fun w => cProduct p' a' n w h0 hn hp' ha'
  have l1 := timesOf_lt p' a' n (by omega)
  by_cases hz : e' = 0
  ·subst hz
   have := step_end p' a' n R hp' HR.out
   subst this
   clear C1 C2 t1 t2 hd HD
   go_wp2_with fail
   go_ret
   exact ⟨rfl, rfl⟩
  ·have hpos : decide ((0 : Int) < (e' : Int)) = true := by simp; omega
   have hdl : d < e' := by omega
   rcases (show e' % 2 = 0 \/ e' % 2 = 1 by omega) with h2 | h2
   ·have HN : Hid (p' * (timesOf a' a' n) ^ d % n = R) := by
     have := step_even p' a' e' n R h2 HR.out
     rw [HD.out] at this
     exact this
    rw [h2] at t2
    generalize timesOf a' a' n = X at *
    clear C1 l1 hd HR HD h2
    go_wp2_with fail
    refine (C2 _).mono ?_
    rintro x w' ⟨rfl, rfl⟩
    go_wp2_with fail
    go_round
    case rel => exact ⟨X, d, p', rfl, rfl, rfl, l2, hp', by omega, HN⟩
    case measure => simp [intOf]; omega
   ·have HN : Hid (timesOf p' a' n * (timesOf a' a' n) ^ d % n = R) := by
     have := step_odd p' a' e' n R h2 HR.out
     rw [HD.out] at this
     exact this
    rw [h2] at t2
    generalize timesOf a' a' n = X at *
    generalize timesOf p' a' n = Y at *
    clear hd HR HD h2
    go_wp2_with fail
    refine (C1 _).mono ?_
    rintro x w' ⟨rfl, rfl⟩
    go_wp2_with fail
    refine (C2 _).mono ?_
    rintro x w' ⟨rfl, rfl⟩
    go_wp2_with fail
    go_round
    case rel => exact ⟨X, d, Y, rfl, rfl, rfl, l2, l1, by omega, HN⟩
    case measure => simp [intOf]; omega

set_option maxHeartbeats 2000000 in
theorem cPowerL (a e n : Nat) (w : World) (h0 : 2 <= n) (hn : n <= 3000000000) (ha : a < n) (hE : (e : Int) <= 9223372036854775807) :
  Calls Tryz.prog 127 #[.int .i64 a, .int .i64 e, .int .i64 n] w fun x w' => x = .returned (.int .i64 (powOf a e n : Nat)) /\ w' = w := by
 have hst := step_start a e n
 have hlt := powOf_lt a e n (by omega)
 obtain ⟨R, hR⟩ : ∃ R : Nat, powOf a e n = R := ⟨_, rfl⟩
 rw [hR] at hst hlt ⊢
 have HS : Hid (1 * a ^ e % n = R) := hst
 clear hst hR
 have hz : ¬ (n : Int) = 0 := by omega
 have h1 : (1 : Int).tmod (n : Int) = 1 := by
  have := (Int.ofNat_tmod 1 n).symm
  rw [Nat.mod_eq_of_lt (by omega)] at this
  exact this
 go_enter Tryz.func127, Tryz.ntmps127
 go_wp2
 go_loop [0, 1, 7] (fun x y z => ∃ a' e' p' : Nat, x = .int .i64 (a' : Int) /\ y = .int .i64 (e' : Int) /\ z = .int .i64 (p' : Int) /\ a' < n /\ p' < n /\ e' <= e /\ Hid (p' * a' ^ e' % n = R)) (fun _ y _ => (intOf y).toNat)
 case atStart => exact ⟨a, e, 1, rfl, rfl, by first | rfl | simp, ha, by omega, Nat.le_refl _, HS⟩
 case round =>
  obtain ⟨a', e', p', rfl, rfl, rfl, ha', hp', he', HR⟩ := hrel
  clear h1
  have t1 := half_tdiv e'
  have t2 := half_tmod e'
  obtain ⟨d, hd⟩ : ∃ d : Nat, e' / 2 = d := ⟨_, rfl⟩
  have HD : Hid (e' / 2 = d) := hd
  rw [hd] at t1
  obtain ⟨P2, hP2, p21, p22, p23⟩ := prod_facts a' a' n hn ha' ha'
  have l2 := timesOf_lt a' a' n (by omega)
  obtain ⟨P1, hP1, p11, p12, p13⟩ := prod_facts p' a' n hn hp' ha'
  have l1 := timesOf_lt p' a' n (by omega)
  clear hP2 hP1
  by_cases hz : e' = 0
  ·subst hz
   have := step_end p' a' n R hp' HR.out
   subst this
   clear t1 t2 hd HD p21 p22 p23 p11 p12 p13
   go_wp2_with fail
   go_ret
   exact ⟨rfl, rfl⟩
  ·have hpos : decide ((0 : Int) < (e' : Int)) = true := by simp; omega
   have hdl : d < e' := by omega
   rcases (show e' % 2 = 0 \/ e' % 2 = 1 by omega) with h2 | h2
   ·have HN : Hid (p' * (timesOf a' a' n) ^ d % n = R) := by
     have := step_even p' a' e' n R h2 HR.out
     rw [HD.out] at this
     exact this
    rw [h2] at t2
    generalize timesOf a' a' n = X at *
    have e4 : wrap64 (X : Int) = (X : Int) := IntWalk.wrap64_in _ (by omega)
    clear p11 p12 p13 l1 hd HR HD h2
    go_wp2_with fail
    go_round
    case rel => exact ⟨X, d, p', rfl, rfl, rfl, l2, hp', by omega, HN⟩
    case measure => simp [intOf]; omega
   ·have HN : Hid (timesOf p' a' n * (timesOf a' a' n) ^ d % n = R) := by
     have := step_odd p' a' e' n R h2 HR.out
     rw [HD.out] at this
     exact this
    rw [h2] at t2
    generalize timesOf a' a' n = X at *
    generalize timesOf p' a' n = Y at *
    have e4 : wrap64 (X : Int) = (X : Int) := IntWalk.wrap64_in _ (by omega)
    have e5 : wrap64 (Y : Int) = (Y : Int) := IntWalk.wrap64_in _ (by omega)
    clear hd HR HD h2
    go_wp2_with fail
    go_round
    case rel => exact ⟨X, d, Y, rfl, rfl, rfl, l2, l1, by omega, HN⟩
    case measure => simp [intOf]; omega

noncomputable def powI (a e n : Int) : Int := open Classical in if restOk a n /\ 0 <= e then (powOf a.toNat e.toNat n.toNat : Nat) else -1

theorem powI_ok {a e n : Int} (h : restOk a n) (k : 0 <= e) : powI a e n = (powOf a.toNat e.toNat n.toNat : Nat) := by
 unfold powI
 rw [if_pos ⟨h, k⟩]

theorem powI_no1 {a e n : Int} (h : ¬ restOk a n) : powI a e n = -1 := by
 unfold powI
 rw [if_neg (fun x => h x.1)]

theorem powI_no2 {a e n : Int} (h : ¬ 0 <= e) : powI a e n = -1 := by
 unfold powI
 rw [if_neg (fun x => h x.2)]

theorem cPower1 (a e n : Int) (pa pn pe : Addr) (w : World) (hE : e <= 9223372036854775807) (ha : w.cell? pa = some (.int .i64 a)) (hn : w.cell? pn = some (.int .i64 n)) (he : w.cell? pe = some (.int .i64 e)) :
  Calls Tryz.prog 275 #[.pointer (some pa), .pointer (some pn), .pointer (some pe)] w fun x w' => (x = .returned (.int .i64 (powI a e n)) \/ x = refusal (powI a e n)) /\ w' = w := by
 by_cases h1 : restOk a n
 ·by_cases h2 : 0 <= e
  ·rw [powI_ok h1 h2]
   have h1' := h1
   obtain ⟨⟨n1, n2⟩, a1, a2⟩ := h1'
   obtain ⟨A, rfl⟩ : ∃ A : Nat, a = A := ⟨a.toNat, by omega⟩
   obtain ⟨E, rfl⟩ : ∃ E : Nat, e = E := ⟨e.toNat, by omega⟩
   obtain ⟨N, rfl⟩ : ∃ N : Nat, n = N := ⟨n.toNat, by omega⟩
   simp only [Int.toNat_natCast]
   have C := fun w => cPowerOf A E N w (by omega) (by omega) (by omega) hE
   generalize powOf A E N = R at *
   have hd : decide ((0 : Int) <= (E : Int)) = true := by simp
   go_enter Tryz.func275, Tryz.ntmps275
   go_wp2_with fail
   refine (cNeedRest_ok A N (-1) _ h1).mono ?_
   rintro x w' ⟨rfl, rfl⟩
   go_wp2_with fail
   refine (cNeed_ok _ _).mono ?_
   rintro x w' ⟨rfl, rfl⟩
   go_wp2_with fail
   refine (C _).mono ?_
   rintro x w' ⟨rfl, rfl⟩
   go_wp2_with fail
   go_ret
   exact ⟨.inl rfl, rfl⟩
  ·rw [powI_no2 h2]
   have hd : decide (0 <= e) = false := decide_eq_false h2
   go_enter Tryz.func275, Tryz.ntmps275
   go_wp2_with fail
   refine (cNeedRest_ok a n (-1) _ h1).mono ?_
   rintro x w' ⟨rfl, rfl⟩
   go_wp2_with fail
   refine (cNeed_no _ _).mono ?_
   rintro x w' ⟨rfl, rfl⟩
   exact ⟨rfl, .inr rfl, rfl⟩
 ·rw [powI_no1 h1]
  go_enter Tryz.func275, Tryz.ntmps275
  go_wp2_with fail
  refine (cNeedRest_no a n (-1) _ h1).mono ?_
  rintro x w' ⟨rfl, rfl⟩
  exact ⟨rfl, .inr rfl, rfl⟩

theorem cPowerI (a e n : Int) (w : World) (hE : e <= 9223372036854775807) :
  Calls Tryz.prog 273 #[.int .i64 a, .int .i64 e, .int .i64 n] w fun x w' => x = .returned (.int .i64 (powI a e n)) /\ Below w.heap.size w w' := by
 have hmf : ∀ (fn : Fn) (first cap : Array Value) (w : World), (Instr.makeFunc fn first cap).run Tryz.prog w = .ok (.func fn first cap) w := fun _ _ _ _ => rfl
 have H : Calls Tryz.prog 274 #[.func (.func 275) #[] #[.pointer (some ⟨w.heap.size, 0, none⟩), .pointer (some ⟨w.heap.size + 2, 0, none⟩), .pointer (some ⟨w.heap.size + 1, 0, none⟩)]] (box (box (box w a) e) n) fun x w' => x = .returned (.int .i64 (powI a e n)) /\ Below w.heap.size w w' := by
  obtain ⟨ca, ce, cn, hb⟩ := boxes3 w a e n
  refine (cFace 275 _ (powI a e n) (box (box (box w a) e) n) (fun w => face_enters Tryz.func275 (by kernel_rfl) rfl _ w) ?_).mono ?_
  ·refine (cPower1 a e n _ _ _ _ hE ca cn ce).mono ?_
   rintro x w' ⟨h, rfl⟩
   exact ⟨h, Below.refl _ _⟩
  ·rintro x w' ⟨rfl, h⟩
   exact ⟨rfl, below2 hb h⟩
 generalize powI a e n = r at *
 go_enter Tryz.func273, Tryz.ntmps273
 go_wp2_with fail
 refine H.mono ?_
 rintro x w' ⟨rfl, h⟩
 go_wp2_with fail
 go_ret
 exact ⟨rfl, h⟩

end Go.Proofs.YtoioiddjbanahaaGreatDoor
