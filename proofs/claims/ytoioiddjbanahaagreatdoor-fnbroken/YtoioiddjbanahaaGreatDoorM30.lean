/-  -/
import Derived.Test.YtoioiddjbanahaaGreatDoorRows
import Derived.Test.YtoioiddjbanahaaGreatDoorM29
import Derived.Test.YtoioiddjbanahaaGreatDoorM1
import Derived.Test.YtoioiddjbanahaaGreatDoorM3
import Derived.WalkKit
import Derived.Below
import Derived.OpenShut
import Derived.Deep.RegionWith
set_option linter.unusedVariables false
set_option linter.unusedSimpArgs false
namespace Go.Proofs.YtoioiddjbanahaaGreatDoor

open Go.RowKit

end Go.Proofs.YtoioiddjbanahaaGreatDoor

namespace Go.Proofs.YtoioiddjbanahaaGreatDoor

open Go.RowKit

set_option maxHeartbeats 2000000 in
theorem cKeyOfS_no1 (p q e : Int) (w : World) (hn : ¬ (((¬ p = q /\ isPr p) /\ isPr q) /\ (3 <= e /\ e <= 65537 /\ e % 2 = 1))) :
  Calls Tryz.prog 135 #[.int .i64 p, .int .i64 q, .int .i64 e] w fun x w' => x = .returned (.tuple #[.agg #[.int .i64 0, .int .i64 0, .int .i64 0], .bool false]) /\ Below w.heap.size w w' := by
 by_cases h1 : isPr p
 ·have C1 := fun w => cPrimeS p true (by simp [h1]) w
  by_cases h2 : isPr q
  ·have C2 := fun w => cPrimeS q true (by simp [h2]) w
   by_cases h3 : p = q
   ·have hq : (p == q) = true := by simpa using h3
    clear h1 h2 h3 hn
    go_enter Tryz.func135, Tryz.ntmps135
    go_wp2_with fail
    refine (C1 _).mono ?_
    rintro x w' ⟨rfl, rfl⟩
    go_wp2_with fail
    refine (C2 _).mono ?_
    rintro x w' ⟨rfl, rfl⟩
    go_wp2_with fail
    refine bodyPost_ret (v := .tuple #[.agg #[.int .i64 0, .int .i64 0, .int .i64 0], .bool false]) (by simp [results, Tryz.results135, go_sem]) rfl ⟨rfl, ?_⟩
    repeat first | exact Below.refl _ _ | refine Below.setCell ?_ (by simp; try omega) _ | refine Below.alloc ?_ (by simp; try omega) _
   ·have hq : (p == q) = false := by simpa using h3
    have C3 := fun w => cIn5 e 3 65537 w
    by_cases h4 : 3 <= e /\ e <= 65537
    ·have h5 : ¬ e % 2 = 1 := fun x => hn ⟨⟨⟨h3, h1⟩, h2⟩, h4.1, h4.2, x⟩
     have h6 : (e % 2 == 0) = true := by simp; omega
     have h7 : e.tmod 2 = 0 := by rw [Int.tmod_eq_emod_of_nonneg (by omega)]; omega
     rw [dec_t h4] at C3
     clear h1 h2 h3 hn h5
     go_enter Tryz.func135, Tryz.ntmps135
     go_wp2_with fail
     refine (C1 _).mono ?_
     rintro x w' ⟨rfl, rfl⟩
     go_wp2_with fail
     refine (C2 _).mono ?_
     rintro x w' ⟨rfl, rfl⟩
     go_wp2_with fail
     refine (C3 _).mono ?_
     rintro x w' ⟨rfl, rfl⟩
     go_wp2_with fail
     refine bodyPost_ret (v := .tuple #[.agg #[.int .i64 0, .int .i64 0, .int .i64 0], .bool false]) (by simp [results, Tryz.results135, go_sem]) rfl ⟨rfl, ?_⟩
     repeat first | exact Below.refl _ _ | refine Below.setCell ?_ (by simp; try omega) _ | refine Below.alloc ?_ (by simp; try omega) _
    ·rw [dec_f h4] at C3
     clear h1 h2 h3 hn h4
     go_enter Tryz.func135, Tryz.ntmps135
     go_wp2_with fail
     refine (C1 _).mono ?_
     rintro x w' ⟨rfl, rfl⟩
     go_wp2_with fail
     refine (C2 _).mono ?_
     rintro x w' ⟨rfl, rfl⟩
     go_wp2_with fail
     refine (C3 _).mono ?_
     rintro x w' ⟨rfl, rfl⟩
     go_wp2_with fail
     refine bodyPost_ret (v := .tuple #[.agg #[.int .i64 0, .int .i64 0, .int .i64 0], .bool false]) (by simp [results, Tryz.results135, go_sem]) rfl ⟨rfl, ?_⟩
     repeat first | exact Below.refl _ _ | refine Below.setCell ?_ (by simp; try omega) _ | refine Below.alloc ?_ (by simp; try omega) _
  ·have C2 := fun w => cPrimeS q false (by simp [h2]) w
   clear h1 h2 hn
   go_enter Tryz.func135, Tryz.ntmps135
   go_wp2_with fail
   refine (C1 _).mono ?_
   rintro x w' ⟨rfl, rfl⟩
   go_wp2_with fail
   refine (C2 _).mono ?_
   rintro x w' ⟨rfl, rfl⟩
   go_wp2_with fail
   refine bodyPost_ret (v := .tuple #[.agg #[.int .i64 0, .int .i64 0, .int .i64 0], .bool false]) (by simp [results, Tryz.results135, go_sem]) rfl ⟨rfl, ?_⟩
   repeat first | exact Below.refl _ _ | refine Below.setCell ?_ (by simp; try omega) _ | refine Below.alloc ?_ (by simp; try omega) _
 ·have C1 := fun w => cPrimeS p false (by simp [h1]) w
  clear h1 hn
  go_enter Tryz.func135, Tryz.ntmps135
  go_wp2_with fail
  refine (C1 _).mono ?_
  rintro x w' ⟨rfl, rfl⟩
  go_wp2_with fail
  refine bodyPost_ret (v := .tuple #[.agg #[.int .i64 0, .int .i64 0, .int .i64 0], .bool false]) (by simp [results, Tryz.results135, go_sem]) rfl ⟨rfl, ?_⟩
  repeat first | exact Below.refl _ _ | refine Below.setCell ?_ (by simp; try omega) _ | refine Below.alloc ?_ (by simp; try omega) _

set_option maxHeartbeats 2000000 in
theorem cKeyOfS (p q e : Int) (w : World) :
  Calls Tryz.prog 135 #[.int .i64 p, .int .i64 q, .int .i64 e] w fun x w' => x = .returned (.tuple #[.agg #[.int .i64 (kfN p q e), .int .i64 (kfE p q e), .int .i64 (kfD p q e)], .bool (kfB p q e)]) /\ Below w.heap.size w w' := by
 by_cases hg : ((¬ p = q /\ isPr p) /\ isPr q) /\ (3 <= e /\ e <= 65537 /\ e % 2 = 1)
 ·obtain ⟨hu, he⟩ := hg
  have C1 := fun w => cPrimeS p true (by simp [hu]) w
  have C2 := fun w => cPrimeS q true (by simp [hu]) w
  have hq : (p == q) = false := by simpa using hu.1.1
  have C3 := fun w => cIn5 e 3 65537 w
  rw [dec_t ⟨he.1, he.2.1⟩] at C3
  have h6 : (e % 2 == 0) = false := by simp; omega
  have h7 : e.tmod 2 = 1 := by rw [Int.tmod_eq_emod_of_nonneg (by omega)]; omega
  have h1 := hu.1.2.1
  have h2 := hu.2.1
  have hpq := prod_in h1 h2
  have hphi := phi_is p q
  have hlt := @invI_lt e ((p - 1) * (q - 1))
  have hge := invI_ge e ((p - 1) * (q - 1))
  have C4 := fun w => cIn5 (p * q) 2147483648 3000000000 w
  have CI := fun w => cInvS e ((p - 1) * (q - 1)) w
  by_cases hr : 2147483648 <= p * q /\ p * q <= 3000000000
  ·rw [dec_t hr] at C4
   have hmod : e.tmod ((p - 1) * (q - 1)) = e := Int.tmod_eq_of_lt (by omega) (by omega)
   have hemod : e % ((p - 1) * (q - 1)) = e := Int.emod_eq_of_lt (by omega) (by omega)
   have hnz : ¬ (p - 1) * (q - 1) = 0 := by omega
   obtain ⟨P, hP⟩ : ∃ P, p * q = P := ⟨_, rfl⟩
   obtain ⟨F, hF⟩ : ∃ F, (p - 1) * (q - 1) = F := ⟨_, rfl⟩
   have w1 : wrap64 (p * q) = P := (IntWalk.wrap64_in _ (by omega)).trans hP
   have w2 : IntKind.i64.wrap (p * q) = P := (IntWalk.i64_in _ (by omega)).trans hP
   have w3 : wrap64 ((p - 1) * (q - 1)) = F := (IntWalk.wrap64_in _ (by omega)).trans hF
   have w4 : IntKind.i64.wrap ((p - 1) * (q - 1)) = F := (IntWalk.i64_in _ (by omega)).trans hF
   have w5 : wrap64 e = e := IntWalk.wrap64_in _ (by omega)
   obtain ⟨D, hD⟩ : ∃ D, invI e ((p - 1) * (q - 1)) = D := ⟨_, rfl⟩
   by_cases h3 : 3 <= invI e ((p - 1) * (q - 1))
   ·obtain ⟨k1, k2, k3, k4⟩ := kf_yes (show kfP p q e from ⟨hu, he, hr, h3⟩)
    rw [k1, k2, k3, k4, hP, hD]
    rw [hD, hF] at CI
    rw [hP] at C4
    rw [hF] at hmod hemod hnz
    have hd : decide (D < 3) = false := by simp; omega
    clear hu hr h3 hpq hphi hlt hge k1 k2 k3 k4 hP hF hD hemod
    go_enter Tryz.func135, Tryz.ntmps135
    go_wp2_with fail
    refine (C1 _).mono ?_
    rintro x w' ⟨rfl, rfl⟩
    go_wp2_with fail
    refine (C2 _).mono ?_
    rintro x w' ⟨rfl, rfl⟩
    go_wp2_with fail
    refine (C3 _).mono ?_
    rintro x w' ⟨rfl, rfl⟩
    go_wp2_with fail
    refine (C4 _).mono ?_
    rintro x w' ⟨rfl, rfl⟩
    go_wp2_with fail
    refine (CI _).mono ?_
    rintro x w' ⟨rfl, rfl⟩
    go_wp2_with fail
    refine bodyPost_ret (v := .tuple #[.agg #[.int .i64 P, .int .i64 e, .int .i64 D], .bool true]) (by simp [results, Tryz.results135, go_sem]) rfl ⟨rfl, ?_⟩
    repeat first | exact Below.refl _ _ | refine Below.setCell ?_ (by simp; try omega) _ | refine Below.alloc ?_ (by simp; try omega) _
   ·obtain ⟨k1, k2, k3, k4⟩ := kf_no (fun x : kfP p q e => h3 x.2.2.2)
    rw [k1, k2, k3, k4]
    rw [hD, hF] at CI
    rw [hP] at C4
    rw [hF] at hmod hemod hnz
    have hd : decide (D < 3) = true := by simp; omega
    clear hu hr h3 hpq hphi hlt hge k1 k2 k3 k4 hP hF hD hemod
    go_enter Tryz.func135, Tryz.ntmps135
    go_wp2_with fail
    refine (C1 _).mono ?_
    rintro x w' ⟨rfl, rfl⟩
    go_wp2_with fail
    refine (C2 _).mono ?_
    rintro x w' ⟨rfl, rfl⟩
    go_wp2_with fail
    refine (C3 _).mono ?_
    rintro x w' ⟨rfl, rfl⟩
    go_wp2_with fail
    refine (C4 _).mono ?_
    rintro x w' ⟨rfl, rfl⟩
    go_wp2_with fail
    refine (CI _).mono ?_
    rintro x w' ⟨rfl, rfl⟩
    go_wp2_with fail
    refine bodyPost_ret (v := .tuple #[.agg #[.int .i64 0, .int .i64 0, .int .i64 0], .bool false]) (by simp [results, Tryz.results135, go_sem]) rfl ⟨rfl, ?_⟩
    repeat first | exact Below.refl _ _ | refine Below.setCell ?_ (by simp; try omega) _ | refine Below.alloc ?_ (by simp; try omega) _
  ·obtain ⟨k1, k2, k3, k4⟩ := kf_no (fun x : kfP p q e => hr x.2.2.1)
   rw [k1, k2, k3, k4]
   rw [dec_f hr] at C4
   obtain ⟨P, hP⟩ : ∃ P, p * q = P := ⟨_, rfl⟩
   have w1 : wrap64 (p * q) = P := (IntWalk.wrap64_in _ (by omega)).trans hP
   have w2 : IntKind.i64.wrap (p * q) = P := (IntWalk.i64_in _ (by omega)).trans hP
   rw [hP] at C4
   clear CI hu hr hpq hphi hlt hge k1 k2 k3 k4 hP
   go_enter Tryz.func135, Tryz.ntmps135
   go_wp2_with fail
   refine (C1 _).mono ?_
   rintro x w' ⟨rfl, rfl⟩
   go_wp2_with fail
   refine (C2 _).mono ?_
   rintro x w' ⟨rfl, rfl⟩
   go_wp2_with fail
   refine (C3 _).mono ?_
   rintro x w' ⟨rfl, rfl⟩
   go_wp2_with fail
   refine (C4 _).mono ?_
   rintro x w' ⟨rfl, rfl⟩
   go_wp2_with fail
   refine bodyPost_ret (v := .tuple #[.agg #[.int .i64 0, .int .i64 0, .int .i64 0], .bool false]) (by simp [results, Tryz.results135, go_sem]) rfl ⟨rfl, ?_⟩
   repeat first | exact Below.refl _ _ | refine Below.setCell ?_ (by simp; try omega) _ | refine Below.alloc ?_ (by simp; try omega) _
 ·obtain ⟨k1, k2, k3, k4⟩ := kf_no (fun x : kfP p q e => hg ⟨x.1, x.2.1⟩)
  rw [k1, k2, k3, k4]
  exact cKeyOfS_no1 p q e w hg

end Go.Proofs.YtoioiddjbanahaaGreatDoor

namespace Go.Proofs.YtoioiddjbanahaaGreatDoor

open Go.RowKit

theorem code_below {w w2 : World} {a : Option Addr} {len : Nat} (h : CodeRow w a len) (hb : Below w.heap.size w w2) : CodeRow w2 a len := by
 rcases h with h | ⟨cb, co, z, h1, h2, h3⟩
 ·exact .inl h
 ·exact .inr ⟨cb, co, z, h1, Nat.lt_of_lt_of_le h2 hb.size, fun j hj => (hb.cell (p := ⟨cb, co + j, none⟩) h2).trans (h3 j hj)⟩

theorem cBig_no (a : Option Addr) (len cap : Nat) (w : World) (h : len <= 4096) : Calls Tryz.prog 5 #[.slice a len cap] w fun e w' => e = .returned (.bool false) /\ w' = w := by
 have h1 : decide ((4096 : Int) < (len : Int)) = false := by simp; omega
 go_enter Tryz.func5, Tryz.ntmps5
 go_wp2
 go_ret
 exact ⟨rfl, rfl⟩

theorem cBig_yes (a : Option Addr) (len cap : Nat) (w : World) (h : ¬ len <= 4096) : Calls Tryz.prog 5 #[.slice a len cap] w fun e w' => e = .returned (.bool true) /\ w' = w := by
 have h1 : decide ((4096 : Int) < (len : Int)) = true := by simp; omega
 go_enter Tryz.func5, Tryz.ntmps5
 go_wp2
 go_ret
 exact ⟨rfl, rfl⟩

end Go.Proofs.YtoioiddjbanahaaGreatDoor

namespace Go.Proofs.YtoioiddjbanahaaGreatDoor

open Go.RowKit

theorem hide5 {p : Prop} (h : p) : Hid p := h

def CodeB (w : World) (a : Option Addr) (len : Nat) : Prop :=
 len = 0 \/ ∃ cb co, ∃ z : Nat -> Int, a = some ⟨cb, co, none⟩ /\ cb < w.heap.size /\ ∀ j, j < len -> w.cell? ⟨cb, co + j, none⟩ = some (.int .u8 (z j)) /\ 0 <= z j /\ z j <= 255

theorem CodeB.row {w : World} {a : Option Addr} {len : Nat} (h : CodeB w a len) : CodeRow w a len := by
 rcases h with h | ⟨cb, co, z, h1, h2, h3⟩
 ·exact .inl h
 ·exact .inr ⟨cb, co, z, h1, h2, fun j hj => (h3 j hj).1⟩

theorem CodeB.below {w w2 : World} {a : Option Addr} {len : Nat} (h : CodeB w a len) (hb : Below w.heap.size w w2) : CodeB w2 a len := by
 rcases h with h | ⟨cb, co, z, h1, h2, h3⟩
 ·exact .inl h
 ·exact .inr ⟨cb, co, z, h1, Nat.lt_of_lt_of_le h2 hb.size, fun j hj => ⟨(hb.cell (p := ⟨cb, co + j, none⟩) h2).trans (h3 j hj).1, (h3 j hj).2⟩⟩

theorem codeB_of {w : World} {a : Option Addr} {len cap : Nat} {zs : List Int}
  (h : (a = none /\ len = 0 /\ cap = 0 /\ zs = []) \/ ∃ x, a = some x /\ len <= cap /\ cap <= maxLen /\ zs.length = cap /\ (∀ i, i < zs.length -> w.cell? (x.add i) = some (.int .u8 (zs.getD i 0))) /\ ∀ n ∈ zs, (Lit.int .u8 n).wf = true) : CodeB w a len := by
 rcases h with ⟨_, h, _⟩ | ⟨x, rfl, hl, _, hz, hc, hwf⟩
 ·exact .inl h
 ·by_cases h0 : len = 0
  ·exact .inl h0
  ·obtain ⟨cb, co, rfl, hcells⟩ := ints_at hc (by omega)
   refine .inr ⟨cb, co, fun j => zs.getD j 0, rfl, ?_, fun j hj => ⟨hcells j (by omega), ?_⟩⟩
   ·have h1 := hcells 0 (by omega)
    rcases Nat.lt_or_ge cb w.heap.size with h' | h'
    ·exact h'
    ·simp [World.cell?, Array.getElem?_eq_none h'] at h1
   ·have h1 : zs.getD j 0 ∈ zs := by
     rw [List.getD, List.getElem?_eq_getElem (by omega)]
     exact List.getElem_mem _
    have := hwf _ h1
    simp only [Lit.wf, Bool.and_eq_true, decide_eq_true_eq] at this
    have h2 : IntKind.u8.min = 0 := rfl
    have h3 : IntKind.u8.max = 255 := rfl
    rw [h2, h3] at this
    exact this

set_option maxHeartbeats 2000000 in
theorem cPick (s m : Nat) (a : Option Addr) (len cap : Nat) (w : World) (hs : s <= 10) (hm0 : 1 <= m) (hm1 : m <= 10000000) (hlen : len <= 4096) (hcr : CodeB w a len) :
  Calls Tryz.prog 9 #[.slice a len cap, .int .i64 s, .int .i64 m] w fun e w' => ∃ x : Nat, e = .returned (.int .i64 x) /\ x < m /\ w' = w := by
 have HR := hide5 hcr
 clear hcr
 have hmz : ¬ (m : Int) = 0 := by omega
 go_enter Tryz.func9, Tryz.ntmps9
 go_wp2
 go_loop [7, 8] (fun k i => ∃ (j : Nat) (x : Int), i = .int .i64 (j : Int) /\ j <= len /\ k = .int .i64 x /\ 0 <= x /\ x < 1000003) (fun _ i => len - (intOf i).toNat)
 case atStart => exact ⟨0, _, rfl, Nat.zero_le _, rfl, by omega, by omega⟩
 case round =>
  obtain ⟨j, x, rfl, hj, rfl, h0, h1⟩ := hrel
  by_cases hlt : j < len
  ·obtain ⟨cb, co, z, rfl, hcb, hz⟩ : ∃ cb co, ∃ z : Nat -> Int, a = some ⟨cb, co, none⟩ /\ cb < w.heap.size /\ ∀ j, j < len -> w.cell? ⟨cb, co + j, none⟩ = some (.int .u8 (z j)) /\ 0 <= z j /\ z j <= 255 := by
    rcases HR.out with h | h
    ·omega
    ·exact h
   obtain ⟨hcell, hz0, hz1⟩ := hz j hlt
   clear hz
   generalize z j = Z at *
   go_wp2_with fail
   go_round
   case rel => exact ⟨j + 1, (x * 233 + Z + (s : Int)) % 1000003, by go_num, by omega, rfl, by omega, by omega⟩
   case measure => simp [intOf]; omega
  ·go_wp2_with fail
   go_ret
   have e : x % (m : Int) = ((x.toNat % m : Nat) : Int) := by
    have : x = (x.toNat : Int) := by omega
    rw [this]; simp
   exact ⟨x.toNat % m, by rw [<- e]; rfl, Nat.mod_lt _ (by omega), rfl⟩

end Go.Proofs.YtoioiddjbanahaaGreatDoor
