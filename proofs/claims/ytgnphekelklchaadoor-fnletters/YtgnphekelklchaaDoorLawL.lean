/- The law on letters, walked. -/
import Derived.Test.YtgnphekelklchaaDoorLawD
import Derived.WalkKit
namespace Go.Proofs.YtgnphekelklchaaDoor
open Go.RowKit
set_option linter.unusedVariables false
set_option linter.unusedSimpArgs false

theorem bt {w a b : World} (h : Below w.heap.size w a) (k : Below a.heap.size a b) : Below w.heap.size w b := h.trans (k.mono h.size)

theorem code_below {w w2 : World} {a : Option Addr} {len : Nat} (h : CodeRow w a len) (hb : Below w.heap.size w w2) : CodeRow w2 a len := by
  rcases h with h | ⟨cb, co, z, h1, h2, h3⟩
  · exact .inl h
  · exact .inr ⟨cb, co, z, h1, Nat.lt_of_lt_of_le h2 hb.size, fun j hj => (hb.cell (p := ⟨cb, co + j, none⟩) h2).trans (h3 j hj)⟩

theorem valOf_letOf (n : Int) (h0 : 0 ≤ n) (h1 : n < 64) : valOf (letOf n) = n := by
  have e : letOf n = [letN n.toNat] := by unfold letOf; rw [if_pos ⟨h0, by omega⟩]
  rw [e]
  show valN _ = _
  rw [val_let' _ (by omega)]
  omega

set_option maxHeartbeats 8000000 in
theorem law_letters (a : Option Addr) (len cap : Nat) (w : World) (hcr : CodeRow w a len) :
    Calls Tryd.prog 3 #[.slice a len cap] w fun e w' => e = .returned (.bool true) ∧ Below w.heap.size w w' := by
  have HR : Hid (CodeRow w a len) := hcr
  clear hcr
  by_cases hbig : len ≤ 4096
  · go_enter Tryd.func3, Tryd.ntmps3
    go_wp2_with fail
    refine (cBig_no a len cap _ hbig).mono ?_
    rintro e0 w' ⟨rfl, rfl⟩
    go_wp2_with fail
    refine (cToD a len cap _ hbig HR.out).mono ?_
    rintro e0 w1 ⟨s, rfl, hs, hb1⟩
    obtain ⟨L, hL⟩ : ∃ L : ByteArray, (⟨(toL s.data.toList).toArray⟩ : ByteArray) = L := ⟨_, rfl⟩
    have hLl : L.data.toList = toL s.data.toList := by rw [← hL]
    have hLs : L.size = (s.size + 2) / 3 * 4 := by rw [sz L, hLl, toL_len, ← sz s]
    have TI := fun w => cEncI s w (by omega)
    have TS := fun w => cEncS s w (by omega)
    rw [hL] at TI TS
    have FL := fun w => cDecI L w (by omega)
    rw [hLl, (fromL_iff (toL s.data.toList) s.data.toList).2 rfl] at FL
    rw [show (⟨(outL (some s.data.toList)).toArray⟩ : ByteArray) = s from rfl] at FL
    clear hL hLl
    go_wp2_with fail
    refine (TI _).mono ?_
    rintro e0 w2 ⟨rfl, hb2⟩
    replace hb1 := bt hb1 hb2; clear hb2 TI
    go_wp2_with fail
    refine (cFromD a len cap _ hbig (code_below HR.out hb1)).mono ?_
    rintro e0 w3 ⟨t, rfl, ht, hb2⟩
    replace hb1 := bt hb1 hb2; clear hb2
    have FI := fun w => cDecI t w (by omega)
    have FS := fun w => cDecS t w (by omega)
    have hlq : (L.size : Int) = ((s.size : Int) + 2) / 3 * 4 := by omega
    cases hr : fromL t.data.toList with
    | none =>
      rw [hr] at FI FS
      rw [show (⟨(outL none).toArray⟩ : ByteArray) = ⟨#[]⟩ from rfl] at FI FS
      clear hr
      go_wp2_with fail
      refine (FI _).mono ?_
      rintro e0 wx ⟨rfl, hb2⟩
      replace hb1 := bt hb1 hb2; clear hb2
      go_wp2_with fail
      refine (cLetD a len cap _ hbig (code_below HR.out hb1)).mono ?_
      rintro e0 wx ⟨n, rfl, hn0, hn1, hb2⟩
      replace hb1 := bt hb1 hb2; clear hb2
      go_wp2_with fail
      refine (cValD a len cap _ hbig (code_below HR.out hb1)).mono ?_
      rintro e0 wx ⟨v, rfl, hv, hb2⟩
      replace hb1 := bt hb1 hb2; clear hb2
      go_wp2_with fail
      refine (FS _).mono ?_
      rintro e0 wx ⟨rfl, hb2⟩
      replace hb1 := bt hb1 hb2; clear hb2
      have LI := fun w => cLetI n w (by omega) (by omega)
      have LS := fun w => cLetS n w (by omega) (by omega)
      obtain ⟨U, hU⟩ : ∃ U : ByteArray, (⟨(letOf n).toArray⟩ : ByteArray) = U := ⟨_, rfl⟩
      have hUl : U.data.toList = letOf n := by rw [← hU]
      have hUs : U.size ≤ maxLen := by rw [sz U, hUl]; unfold letOf maxLen; split <;> simp
      rw [hU] at LI LS
      have VI := fun w => cValI v w (by unfold maxLen; omega)
      have VS := fun w => cValS v w
      have UI := fun w => cValI U w hUs
      rw [hUl] at UI
      clear hU hUl hUs
      go_wp2_with fail
      refine (TS _).mono ?_
      rintro e0 wx ⟨rfl, hb2⟩
      replace hb1 := bt hb1 hb2; clear hb2
      go_wp2_with fail
      refine (LI _).mono ?_
      rintro e0 wx ⟨rfl, hb2⟩
      replace hb1 := bt hb1 hb2; clear hb2
      go_wp2_with fail
      refine (LS _).mono ?_
      rintro e0 wx ⟨rfl, rfl⟩
      go_wp2_with fail
      refine (VI _).mono ?_
      rintro e0 wx ⟨rfl, rfl⟩
      go_wp2_with fail
      refine (VS _).mono ?_
      rintro e0 wx ⟨rfl, rfl⟩
      rcases (show n < 0 ∨ (0 ≤ n ∧ n < 64) ∨ (0 ≤ n ∧ 64 ≤ n) by omega) with hn | ⟨hn, hn2⟩ | ⟨hn, hn2⟩
      · go_wp2_with fail
        refine (FL _).mono ?_
        rintro e0 wx ⟨rfl, hb2⟩
        replace hb1 := bt hb1 hb2; clear hb2
        go_wp2
        go_ret
        exact ⟨rfl, hb1⟩
      · rw [valOf_letOf n hn hn2] at UI
        go_wp2_with fail
        refine (LI _).mono ?_
        rintro e0 wx ⟨rfl, hb2⟩
        replace hb1 := bt hb1 hb2; clear hb2
        go_wp2_with fail
        refine (UI _).mono ?_
        rintro e0 wx ⟨rfl, rfl⟩
        go_wp2_with fail
        refine (FL _).mono ?_
        rintro e0 wx ⟨rfl, hb2⟩
        replace hb1 := bt hb1 hb2; clear hb2
        go_wp2
        go_ret
        exact ⟨rfl, hb1⟩
      · go_wp2_with fail
        refine (FL _).mono ?_
        rintro e0 wx ⟨rfl, hb2⟩
        replace hb1 := bt hb1 hb2; clear hb2
        go_wp2
        go_ret
        exact ⟨rfl, hb1⟩
    | some x =>
      have hX := (fromL_iff t.data.toList x).1 hr
      rw [hr] at FI FS
      obtain ⟨X, hXe⟩ : ∃ X : ByteArray, (⟨(outL (some x)).toArray⟩ : ByteArray) = X := ⟨_, rfl⟩
      rw [hXe] at FI FS
      have hXl : X.data.toList = x := by rw [← hXe]; rfl
      have hXs : X.size ≤ 1048576 := by
        have h1 := congrArg List.length hX
        rw [toL_len, ← sz t, ← hXl, ← sz X] at h1
        omega
      have XI := fun w => cEncI X w hXs
      rw [hXl, hX] at XI
      rw [show (⟨t.data.toList.toArray⟩ : ByteArray) = t from rfl] at XI
      clear hX hXe hXl hr
      go_wp2_with fail
      refine (FI _).mono ?_
      rintro e0 wx ⟨rfl, hb2⟩
      replace hb1 := bt hb1 hb2; clear hb2
      go_wp2_with fail
      refine (cLetD a len cap _ hbig (code_below HR.out hb1)).mono ?_
      rintro e0 wx ⟨n, rfl, hn0, hn1, hb2⟩
      replace hb1 := bt hb1 hb2; clear hb2
      go_wp2_with fail
      refine (cValD a len cap _ hbig (code_below HR.out hb1)).mono ?_
      rintro e0 wx ⟨v, rfl, hv, hb2⟩
      replace hb1 := bt hb1 hb2; clear hb2
      go_wp2_with fail
      refine (FS _).mono ?_
      rintro e0 wx ⟨rfl, hb2⟩
      replace hb1 := bt hb1 hb2; clear hb2
      have LI := fun w => cLetI n w (by omega) (by omega)
      have LS := fun w => cLetS n w (by omega) (by omega)
      obtain ⟨U, hU⟩ : ∃ U : ByteArray, (⟨(letOf n).toArray⟩ : ByteArray) = U := ⟨_, rfl⟩
      have hUl : U.data.toList = letOf n := by rw [← hU]
      have hUs : U.size ≤ maxLen := by rw [sz U, hUl]; unfold letOf maxLen; split <;> simp
      rw [hU] at LI LS
      have VI := fun w => cValI v w (by unfold maxLen; omega)
      have VS := fun w => cValS v w
      have UI := fun w => cValI U w hUs
      rw [hUl] at UI
      clear hU hUl hUs
      go_wp2_with fail
      refine (TS _).mono ?_
      rintro e0 wx ⟨rfl, hb2⟩
      replace hb1 := bt hb1 hb2; clear hb2
      go_wp2_with fail
      refine (LI _).mono ?_
      rintro e0 wx ⟨rfl, hb2⟩
      replace hb1 := bt hb1 hb2; clear hb2
      go_wp2_with fail
      refine (LS _).mono ?_
      rintro e0 wx ⟨rfl, rfl⟩
      go_wp2_with fail
      refine (VI _).mono ?_
      rintro e0 wx ⟨rfl, rfl⟩
      go_wp2_with fail
      refine (VS _).mono ?_
      rintro e0 wx ⟨rfl, rfl⟩
      go_wp2_with fail
      refine (XI _).mono ?_
      rintro e0 wx ⟨rfl, hb2⟩
      replace hb1 := bt hb1 hb2; clear hb2
      rcases (show n < 0 ∨ (0 ≤ n ∧ n < 64) ∨ (0 ≤ n ∧ 64 ≤ n) by omega) with hn | ⟨hn, hn2⟩ | ⟨hn, hn2⟩
      · go_wp2_with fail
        refine (FL _).mono ?_
        rintro e0 wx ⟨rfl, hb2⟩
        replace hb1 := bt hb1 hb2; clear hb2
        go_wp2
        go_ret
        exact ⟨rfl, hb1⟩
      · rw [valOf_letOf n hn hn2] at UI
        go_wp2_with fail
        refine (LI _).mono ?_
        rintro e0 wx ⟨rfl, hb2⟩
        replace hb1 := bt hb1 hb2; clear hb2
        go_wp2_with fail
        refine (UI _).mono ?_
        rintro e0 wx ⟨rfl, rfl⟩
        go_wp2_with fail
        refine (FL _).mono ?_
        rintro e0 wx ⟨rfl, hb2⟩
        replace hb1 := bt hb1 hb2; clear hb2
        go_wp2
        go_ret
        exact ⟨rfl, hb1⟩
      · go_wp2_with fail
        refine (FL _).mono ?_
        rintro e0 wx ⟨rfl, hb2⟩
        replace hb1 := bt hb1 hb2; clear hb2
        go_wp2
        go_ret
        exact ⟨rfl, hb1⟩
  · go_enter Tryd.func3, Tryd.ntmps3
    go_wp2_with fail
    refine (cBig_yes a len cap _ hbig).mono ?_
    rintro e w' ⟨rfl, rfl⟩
    go_wp2
    go_ret
    exact ⟨rfl, Below.refl _ _⟩

end Go.Proofs.YtgnphekelklchaaDoor
