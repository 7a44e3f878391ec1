/- Contracts of KeyOf of the specification, and of what the laws hold keys against each other by. Contracts of the draws of numbers and a modulus, and of a number picked by the law. -/
import Derived.Test.YtgdfeicojgnoaaaGreatDoorM26
import Derived.Test.YtgdfeicojgnoaaaGreatDoorM15
import Derived.Deep.RegionWith
namespace Go.Proofs.YtgdfeicojgnoaaaGreatDoor
open Go.RowKit
set_option linter.unusedVariables false
set_option linter.unusedSimpArgs false

theorem pr_bool (p : Int) : ∃ B : Bool, B = true ↔ isPr p := by
  by_cases h : isPr p
  · exact ⟨true, by simp [h]⟩
  · exact ⟨false, by simp [h]⟩

set_option maxHeartbeats 2000000 in
theorem cKeyOfS_no1 (p q e : Int) (w : World) (hn : ¬ (((¬ p = q ∧ isPr p) ∧ isPr q) ∧ (3 ≤ e ∧ e ≤ 65537 ∧ e % 2 = 1))) :
    Calls Tryz.prog 127 #[.int .i64 p, .int .i64 q, .int .i64 e] w fun x w' => x = .returned (.tuple #[.agg #[.int .i64 0, .int .i64 0, .int .i64 0], .bool false]) ∧ Below w.heap.size w w' := by
  by_cases h1 : isPr p
  · have C1 := fun w => cPrimeS p true (by simp [h1]) w
    by_cases h2 : isPr q
    · have C2 := fun w => cPrimeS q true (by simp [h2]) w
      by_cases h3 : p = q
      · have hq : (p == q) = true := by simpa using h3
        clear h1 h2 h3 hn
        go_enter Tryz.func127, Tryz.ntmps127
        go_wp2_with fail
        refine (C1 _).mono ?_
        rintro x w' ⟨rfl, rfl⟩
        go_wp2_with fail
        refine (C2 _).mono ?_
        rintro x w' ⟨rfl, rfl⟩
        go_wp2_with fail
        refine bodyPost_ret (v := .tuple #[.agg #[.int .i64 0, .int .i64 0, .int .i64 0], .bool false]) (by simp [results, Tryz.results127, go_sem]) rfl ⟨rfl, ?_⟩
        repeat first | exact Below.refl _ _ | refine Below.setCell ?_ (by simp; try omega) _ | refine Below.alloc ?_ (by simp; try omega) _
      · have hq : (p == q) = false := by simpa using h3
        have C3 := fun w => cIn5 e 3 65537 w
        by_cases h4 : 3 ≤ e ∧ e ≤ 65537
        · have h5 : ¬ e % 2 = 1 := fun x => hn ⟨⟨⟨h3, h1⟩, h2⟩, h4.1, h4.2, x⟩
          have h6 : (e % 2 == 0) = true := by simp; omega
          have h7 : e.tmod 2 = 0 := by rw [Int.tmod_eq_emod_of_nonneg (by omega)]; omega
          rw [dec_t h4] at C3
          clear h1 h2 h3 hn h5
          go_enter Tryz.func127, Tryz.ntmps127
          go_wp2_with fail
          refine (C1 _).mono ?_
          rintro x w' ⟨rfl, rfl⟩
          go_wp2_with fail
          refine (C2 _).mono ?_
          rintro x w' ⟨rfl, rfl⟩
          go_wp2_with fail
          refine (C3 _).mono ?_
          rintro x w' ⟨rfl, rfl⟩
          go_wp2_with fail
          refine bodyPost_ret (v := .tuple #[.agg #[.int .i64 0, .int .i64 0, .int .i64 0], .bool false]) (by simp [results, Tryz.results127, go_sem]) rfl ⟨rfl, ?_⟩
          repeat first | exact Below.refl _ _ | refine Below.setCell ?_ (by simp; try omega) _ | refine Below.alloc ?_ (by simp; try omega) _
        · rw [dec_f h4] at C3
          clear h1 h2 h3 hn h4
          go_enter Tryz.func127, Tryz.ntmps127
          go_wp2_with fail
          refine (C1 _).mono ?_
          rintro x w' ⟨rfl, rfl⟩
          go_wp2_with fail
          refine (C2 _).mono ?_
          rintro x w' ⟨rfl, rfl⟩
          go_wp2_with fail
          refine (C3 _).mono ?_
          rintro x w' ⟨rfl, rfl⟩
          go_wp2_with fail
          refine bodyPost_ret (v := .tuple #[.agg #[.int .i64 0, .int .i64 0, .int .i64 0], .bool false]) (by simp [results, Tryz.results127, go_sem]) rfl ⟨rfl, ?_⟩
          repeat first | exact Below.refl _ _ | refine Below.setCell ?_ (by simp; try omega) _ | refine Below.alloc ?_ (by simp; try omega) _
    · have C2 := fun w => cPrimeS q false (by simp [h2]) w
      clear h1 h2 hn
      go_enter Tryz.func127, Tryz.ntmps127
      go_wp2_with fail
      refine (C1 _).mono ?_
      rintro x w' ⟨rfl, rfl⟩
      go_wp2_with fail
      refine (C2 _).mono ?_
      rintro x w' ⟨rfl, rfl⟩
      go_wp2_with fail
      refine bodyPost_ret (v := .tuple #[.agg #[.int .i64 0, .int .i64 0, .int .i64 0], .bool false]) (by simp [results, Tryz.results127, go_sem]) rfl ⟨rfl, ?_⟩
      repeat first | exact Below.refl _ _ | refine Below.setCell ?_ (by simp; try omega) _ | refine Below.alloc ?_ (by simp; try omega) _
  · have C1 := fun w => cPrimeS p false (by simp [h1]) w
    clear h1 hn
    go_enter Tryz.func127, Tryz.ntmps127
    go_wp2_with fail
    refine (C1 _).mono ?_
    rintro x w' ⟨rfl, rfl⟩
    go_wp2_with fail
    refine bodyPost_ret (v := .tuple #[.agg #[.int .i64 0, .int .i64 0, .int .i64 0], .bool false]) (by simp [results, Tryz.results127, go_sem]) rfl ⟨rfl, ?_⟩
    repeat first | exact Below.refl _ _ | refine Below.setCell ?_ (by simp; try omega) _ | refine Below.alloc ?_ (by simp; try omega) _

set_option maxHeartbeats 2000000 in
theorem cKeyOfS (p q e : Int) (w : World) :
    Calls Tryz.prog 127 #[.int .i64 p, .int .i64 q, .int .i64 e] w fun x w' => x = .returned (.tuple #[.agg #[.int .i64 (kfN p q e), .int .i64 (kfE p q e), .int .i64 (kfD p q e)], .bool (kfB p q e)]) ∧ Below w.heap.size w w' := by
  by_cases hg : ((¬ p = q ∧ isPr p) ∧ isPr q) ∧ (3 ≤ e ∧ e ≤ 65537 ∧ e % 2 = 1)
  · obtain ⟨hu, he⟩ := hg
    have C1 := fun w => cPrimeS p true (by simp [hu]) w
    have C2 := fun w => cPrimeS q true (by simp [hu]) w
    have hq : (p == q) = false := by simpa using hu.1.1
    have C3 := fun w => cIn5 e 3 65537 w
    rw [dec_t ⟨he.1, he.2.1⟩] at C3
    have h6 : (e % 2 == 0) = false := by simp; omega
    have h7 : e.tmod 2 = 1 := by rw [Int.tmod_eq_emod_of_nonneg (by omega)]; omega
    have h1 := hu.1.2.1
    have h2 := hu.2.1
    have hpq := prod_in h1 h2
    have hphi := phi_is p q
    have hlt := @invI_lt e ((p - 1) * (q - 1))
    have hge := invI_ge e ((p - 1) * (q - 1))
    have C4 := fun w => cIn5 (p * q) 2147483648 3000000000 w
    have CI := fun w => cInvS e ((p - 1) * (q - 1)) w
    by_cases hr : 2147483648 ≤ p * q ∧ p * q ≤ 3000000000
    · rw [dec_t hr] at C4
      have hmod : e.tmod ((p - 1) * (q - 1)) = e := Int.tmod_eq_of_lt (by omega) (by omega)
      have hemod : e % ((p - 1) * (q - 1)) = e := Int.emod_eq_of_lt (by omega) (by omega)
      have hnz : ¬ (p - 1) * (q - 1) = 0 := by omega
      obtain ⟨P, hP⟩ : ∃ P, p * q = P := ⟨_, rfl⟩
      obtain ⟨F, hF⟩ : ∃ F, (p - 1) * (q - 1) = F := ⟨_, rfl⟩
      have w1 : wrap64 (p * q) = P := (IntWalk.wrap64_in _ (by omega)).trans hP
      have w2 : IntKind.i64.wrap (p * q) = P := (IntWalk.i64_in _ (by omega)).trans hP
      have w3 : wrap64 ((p - 1) * (q - 1)) = F := (IntWalk.wrap64_in _ (by omega)).trans hF
      have w4 : IntKind.i64.wrap ((p - 1) * (q - 1)) = F := (IntWalk.i64_in _ (by omega)).trans hF
      have w5 : wrap64 e = e := IntWalk.wrap64_in _ (by omega)
      obtain ⟨D, hD⟩ : ∃ D, invI e ((p - 1) * (q - 1)) = D := ⟨_, rfl⟩
      by_cases h3 : 3 ≤ invI e ((p - 1) * (q - 1))
      · obtain ⟨k1, k2, k3, k4⟩ := kf_yes (show kfP p q e from ⟨hu, he, hr, h3⟩)
        rw [k1, k2, k3, k4, hP, hD]
        rw [hD, hF] at CI
        rw [hP] at C4
        rw [hF] at hmod hemod hnz
        have hd : decide (D < 3) = false := by simp; omega
        clear hu hr h3 hpq hphi hlt hge k1 k2 k3 k4 hP hF hD hemod
        go_enter Tryz.func127, Tryz.ntmps127
        go_wp2_with fail
        refine (C1 _).mono ?_
        rintro x w' ⟨rfl, rfl⟩
        go_wp2_with fail
        refine (C2 _).mono ?_
        rintro x w' ⟨rfl, rfl⟩
        go_wp2_with fail
        refine (C3 _).mono ?_
        rintro x w' ⟨rfl, rfl⟩
        go_wp2_with fail
        refine (C4 _).mono ?_
        rintro x w' ⟨rfl, rfl⟩
        go_wp2_with fail
        refine (CI _).mono ?_
        rintro x w' ⟨rfl, rfl⟩
        go_wp2_with fail
        refine bodyPost_ret (v := .tuple #[.agg #[.int .i64 P, .int .i64 e, .int .i64 D], .bool true]) (by simp [results, Tryz.results127, go_sem]) rfl ⟨rfl, ?_⟩
        repeat first | exact Below.refl _ _ | refine Below.setCell ?_ (by simp; try omega) _ | refine Below.alloc ?_ (by simp; try omega) _
      · obtain ⟨k1, k2, k3, k4⟩ := kf_no (fun x : kfP p q e => h3 x.2.2.2)
        rw [k1, k2, k3, k4]
        rw [hD, hF] at CI
        rw [hP] at C4
        rw [hF] at hmod hemod hnz
        have hd : decide (D < 3) = true := by simp; omega
        clear hu hr h3 hpq hphi hlt hge k1 k2 k3 k4 hP hF hD hemod
        go_enter Tryz.func127, Tryz.ntmps127
        go_wp2_with fail
        refine (C1 _).mono ?_
        rintro x w' ⟨rfl, rfl⟩
        go_wp2_with fail
        refine (C2 _).mono ?_
        rintro x w' ⟨rfl, rfl⟩
        go_wp2_with fail
        refine (C3 _).mono ?_
        rintro x w' ⟨rfl, rfl⟩
        go_wp2_with fail
        refine (C4 _).mono ?_
        rintro x w' ⟨rfl, rfl⟩
        go_wp2_with fail
        refine (CI _).mono ?_
        rintro x w' ⟨rfl, rfl⟩
        go_wp2_with fail
        refine bodyPost_ret (v := .tuple #[.agg #[.int .i64 0, .int .i64 0, .int .i64 0], .bool false]) (by simp [results, Tryz.results127, go_sem]) rfl ⟨rfl, ?_⟩
        repeat first | exact Below.refl _ _ | refine Below.setCell ?_ (by simp; try omega) _ | refine Below.alloc ?_ (by simp; try omega) _
    · obtain ⟨k1, k2, k3, k4⟩ := kf_no (fun x : kfP p q e => hr x.2.2.1)
      rw [k1, k2, k3, k4]
      rw [dec_f hr] at C4
      obtain ⟨P, hP⟩ : ∃ P, p * q = P := ⟨_, rfl⟩
      have w1 : wrap64 (p * q) = P := (IntWalk.wrap64_in _ (by omega)).trans hP
      have w2 : IntKind.i64.wrap (p * q) = P := (IntWalk.i64_in _ (by omega)).trans hP
      rw [hP] at C4
      clear CI hu hr hpq hphi hlt hge k1 k2 k3 k4 hP
      go_enter Tryz.func127, Tryz.ntmps127
      go_wp2_with fail
      refine (C1 _).mono ?_
      rintro x w' ⟨rfl, rfl⟩
      go_wp2_with fail
      refine (C2 _).mono ?_
      rintro x w' ⟨rfl, rfl⟩
      go_wp2_with fail
      refine (C3 _).mono ?_
      rintro x w' ⟨rfl, rfl⟩
      go_wp2_with fail
      refine (C4 _).mono ?_
      rintro x w' ⟨rfl, rfl⟩
      go_wp2_with fail
      refine bodyPost_ret (v := .tuple #[.agg #[.int .i64 0, .int .i64 0, .int .i64 0], .bool false]) (by simp [results, Tryz.results127, go_sem]) rfl ⟨rfl, ?_⟩
      repeat first | exact Below.refl _ _ | refine Below.setCell ?_ (by simp; try omega) _ | refine Below.alloc ?_ (by simp; try omega) _
  · obtain ⟨k1, k2, k3, k4⟩ := kf_no (fun x : kfP p q e => hg ⟨x.1, x.2.1⟩)
    rw [k1, k2, k3, k4]
    exact cKeyOfS_no1 p q e w hg

end Go.Proofs.YtgdfeicojgnoaaaGreatDoor

namespace Go.Proofs.YtgdfeicojgnoaaaGreatDoor
open Go.RowKit
set_option linter.unusedVariables false
set_option linter.unusedSimpArgs false

theorem hide5 {p : Prop} (h : p) : Hid p := h

/-- The bytes that a draw is made of, each from 0 to 255. -/
def CodeB (w : World) (a : Option Addr) (len : Nat) : Prop :=
  len = 0 ∨ ∃ cb co, ∃ z : Nat → Int, a = some ⟨cb, co, none⟩ ∧ cb < w.heap.size ∧ ∀ j, j < len → w.cell? ⟨cb, co + j, none⟩ = some (.int .u8 (z j)) ∧ 0 ≤ z j ∧ z j ≤ 255

theorem CodeB.row {w : World} {a : Option Addr} {len : Nat} (h : CodeB w a len) : CodeRow w a len := by
  rcases h with h | ⟨cb, co, z, h1, h2, h3⟩
  · exact .inl h
  · exact .inr ⟨cb, co, z, h1, h2, fun j hj => (h3 j hj).1⟩

theorem CodeB.below {w w2 : World} {a : Option Addr} {len : Nat} (h : CodeB w a len) (hb : Below w.heap.size w w2) : CodeB w2 a len := by
  rcases h with h | ⟨cb, co, z, h1, h2, h3⟩
  · exact .inl h
  · exact .inr ⟨cb, co, z, h1, Nat.lt_of_lt_of_le h2 hb.size, fun j hj => ⟨(hb.cell (p := ⟨cb, co + j, none⟩) h2).trans (h3 j hj).1, (h3 j hj).2⟩⟩

theorem codeB_of {w : World} {a : Option Addr} {len cap : Nat} {zs : List Int}
    (h : (a = none ∧ len = 0 ∧ cap = 0 ∧ zs = []) ∨ ∃ x, a = some x ∧ len ≤ cap ∧ cap ≤ maxLen ∧ zs.length = cap ∧ (∀ i, i < zs.length → w.cell? (x.add i) = some (.int .u8 (zs.getD i 0))) ∧ ∀ n ∈ zs, (Lit.int .u8 n).wf = true) : CodeB w a len := by
  rcases h with ⟨_, h, _⟩ | ⟨x, rfl, hl, _, hz, hc, hwf⟩
  · exact .inl h
  · by_cases h0 : len = 0
    · exact .inl h0
    · obtain ⟨cb, co, rfl, hcells⟩ := ints_at hc (by omega)
      refine .inr ⟨cb, co, fun j => zs.getD j 0, rfl, ?_, fun j hj => ⟨hcells j (by omega), ?_⟩⟩
      · have h1 := hcells 0 (by omega)
        rcases Nat.lt_or_ge cb w.heap.size with h' | h'
        · exact h'
        · simp [World.cell?, Array.getElem?_eq_none h'] at h1
      · have h1 : zs.getD j 0 ∈ zs := by
          rw [List.getD, List.getElem?_eq_getElem (by omega)]
          exact List.getElem_mem _
        have := hwf _ h1
        simp only [Lit.wf, Bool.and_eq_true, decide_eq_true_eq] at this
        have h2 : IntKind.u8.min = 0 := rfl
        have h3 : IntKind.u8.max = 255 := rfl
        rw [h2, h3] at this
        exact this

theorem cBelowAny (n : Nat) (w0 : World) (a : Option Addr) (len cap b : Nat) (w : World) (hlen : len ≤ 4096) (hcr : CodeRow w0 a len) (hC : Cur w0 a len cap b w) (hn0 : 1 ≤ n) (hn1 : n ≤ 4294967296) :
    Calls Tryz.prog 25 #[.pointer (some ⟨b, 0, none⟩), .int .i64 n] w fun e w' => ∃ x : Nat, e = .returned (.int .i64 x) ∧ x < n ∧ Cur w0 a len cap b w' ∧ w.grownBy w' (some b) := by
  rcases Nat.lt_or_ge n 257 with h | h
  · exact cBelow n w0 a len cap b w hlen hcr hC hn0 (by omega)
  · exact cBelowBig n w0 a len cap b w hlen hcr hC h hn1

theorem cMax5 (n : Nat) (w : World) (hn : 1 ≤ n) :
    Calls Tryz.prog 112 #[.int .i64 1, .int .i64 n] w fun e w' => e = .returned (.int .i64 n) ∧ w' = w := by
  by_cases h : n = 1
  · subst h
    go_enter Tryz.func112, Tryz.ntmps112
    go_wp2
    go_ret
    exact ⟨rfl, rfl⟩
  · have h1 : decide ((n : Int) < 1) = false := by simp; omega
    go_enter Tryz.func112, Tryz.ntmps112
    go_wp2
    go_ret
    exact ⟨rfl, rfl⟩

abbrev modsObj : Obj := .cells #[.int .i64 2, .int .i64 3, .int .i64 12, .int .i64 97, .int .i64 65521, .int .i64 2621429689, .int .i64 3000000000, .int .i64 3000000001, .int .i64 1] 2 (0, 0)

theorem mods_at (w : World) (B x : Nat) (hx : x < 9) (h : w.heap[B]? = some modsObj) : ∃ n : Nat, w.cell? ⟨B, x, none⟩ = some (.int .i64 n) ∧ 1 ≤ n ∧ n ≤ 3000000001 := by
  rw [Lib.cell_of_heap h]
  rcases (show x = 0 ∨ x = 1 ∨ x = 2 ∨ x = 3 ∨ x = 4 ∨ x = 5 ∨ x = 6 ∨ x = 7 ∨ x = 8 from by omega) with rfl | rfl | rfl | rfl | rfl | rfl | rfl | rfl | rfl
  · exact ⟨2, rfl, by decide, by decide⟩
  · exact ⟨3, rfl, by decide, by decide⟩
  · exact ⟨12, rfl, by decide, by decide⟩
  · exact ⟨97, rfl, by decide, by decide⟩
  · exact ⟨65521, rfl, by decide, by decide⟩
  · exact ⟨2621429689, rfl, by decide, by decide⟩
  · exact ⟨3000000000, rfl, by decide, by decide⟩
  · exact ⟨3000000001, rfl, by decide, by decide⟩
  · exact ⟨1, rfl, by decide, by decide⟩

abbrev oddsObj (n : Int) : Obj := .cells #[.int .i64 (-1), .int .i64 n, .int .i64 4611686018427387904] 2 (0, 0)

theorem odds_at (n : Int) (w : World) (B x : Nat) (hx : x < 3) (h : w.heap[B]? = some (oddsObj n)) : ∃ y : Int, w.cell? ⟨B, x, none⟩ = some (.int .i64 y) := by
  rw [Lib.cell_of_heap h]
  rcases (show x = 0 ∨ x = 1 ∨ x = 2 from by omega) with rfl | rfl | rfl
  · exact ⟨-1, rfl⟩
  · exact ⟨n, rfl⟩
  · exact ⟨4611686018427387904, rfl⟩

abbrev expsObj : Obj := .cells #[.int .i64 0, .int .i64 1, .int .i64 2, .int .i64 (-1), .int .i64 4611686018427387904] 2 (0, 0)

theorem exps_at (w : World) (B x : Nat) (hx : x < 5) (h : w.heap[B]? = some expsObj) : ∃ y : Int, w.cell? ⟨B, x, none⟩ = some (.int .i64 y) ∧ y ≤ 4611686018427387904 := by
  rw [Lib.cell_of_heap h]
  rcases (show x = 0 ∨ x = 1 ∨ x = 2 ∨ x = 3 ∨ x = 4 from by omega) with rfl | rfl | rfl | rfl | rfl
  · exact ⟨0, rfl, by decide⟩
  · exact ⟨1, rfl, by decide⟩
  · exact ⟨2, rfl, by decide⟩
  · exact ⟨-1, rfl, by decide⟩
  · exact ⟨4611686018427387904, rfl, by decide⟩

end Go.Proofs.YtgdfeicojgnoaaaGreatDoor
