/- The law on escapes: whatever is drawn, it answers true. -/
import Derived.Test.YtigcmabnfmnpmaaLawE
import Derived.WalkKit
namespace Go.Proofs.Ytigcmabnfmnpmaa
open Go.RowKit
set_option linter.unusedVariables false
set_option linter.unusedSimpArgs false

theorem bt {w a b : World} (h : Below w.heap.size w a) (k : Below a.heap.size a b) : Below w.heap.size w b := h.trans (k.mono h.size)

theorem endless_at (q : Bool) (e : ByteArray) (h : ∀ x ∈ e.data.toList, endless q x) (k : Nat) (hk : k < e.size) : endless q e[k] :=
  h _ (by simp [ByteArray.getElem_eq_getElem_data])

set_option maxHeartbeats 4000000 in
theorem law_escapes (a : Option Addr) (len cap : Nat) (w : World) (hcr : CodeRow w a len) :
    Calls Try.prog 3 #[.slice a len cap] w fun e w' => e = .returned (.bool true) ∧ Below w.heap.size w w' := by
  have HR : Hid (CodeRow w a len) := hcr
  clear hcr
  by_cases hbig : len ≤ 4096
  · go_enter Try.func3, Try.ntmps3
    go_wp2_with fail
    refine (c7_no a len cap _ hbig).mono ?_
    rintro e0 w' ⟨rfl, rfl⟩
    go_wp2_with fail
    refine (c8d a len cap _ hbig HR.out).mono ?_
    rintro e0 w1 ⟨t, q, rfl, ht, hb1⟩
    have h0 : t.size ≤ 1048576 := by omega
    have hm0 : t.size ≤ maxLen := by unfold maxLen; omega
    have K9 := fun w => c9 t q w h0
    have K13 := fun w => c13 t q w h0
    have K14 := fun w => c14 t w hm0
    have K15 := fun w => c15 t w hm0
    have hel := escaped_le q t.data.toList
    rw [← sz t] at hel
    obtain ⟨e, he⟩ : ∃ e : ByteArray, (⟨(escapedL q t.data.toList).toArray⟩ : ByteArray) = e := ⟨_, rfl⟩
    have hed : e.data.toList = escapedL q t.data.toList := by rw [← he]
    have hes : e.size ≤ 48 := by rw [sz e, hed]; omega
    rw [he] at K9 K13
    clear he hel
    go_wp2_with fail
    refine (K9 _).mono ?_
    rintro e0 w2 ⟨rfl, hb2⟩
    have hcr2 : CodeRow w2 a len := by
      rcases HR.out with h | ⟨cb, co, z, h1, h2, h3⟩
      · exact .inl h
      · have hb := bt hb1 hb2
        exact .inr ⟨cb, co, z, h1, Nat.lt_of_lt_of_le h2 hb.size, fun j hj => (hb.cell (p := ⟨cb, co + j, none⟩) h2).trans (h3 j hj)⟩
    replace hb1 := bt hb1 hb2; clear hb2
    go_wp2_with fail
    refine (c10d a len cap _ hbig hcr2).mono ?_
    rintro e0 w3 ⟨u, rfl, hu, hb2⟩
    replace hb1 := bt hb1 hb2; clear hb2 hcr2
    have U11 := fun w => c11 u w (by omega)
    have U12 := fun w => c12 u w (by omega)
    obtain ⟨x, hx⟩ : ∃ x : ByteArray, (⟨(outU (unescL u.data.toList)).toArray⟩ : ByteArray) = x := ⟨_, rfl⟩
    obtain ⟨y, hy⟩ : ∃ y : Bool, (unescL u.data.toList).isSome = y := ⟨_, rfl⟩
    rw [hx, hy] at U11 U12
    clear hx hy
    go_wp2_with fail
    refine (U11 _).mono ?_
    rintro e0 w4 ⟨rfl, hb2⟩
    replace hb1 := bt hb1 hb2; clear hb2
    go_wp2_with fail
    refine (U12 _).mono ?_
    rintro e0 w5 ⟨rfl, hb2⟩
    replace hb1 := bt hb1 hb2; clear hb2
    clear U11 U12
    go_wp2_with fail
    refine (K13 _).mono ?_
    rintro e0 w6 ⟨rfl, hb2⟩
    replace hb1 := bt hb1 hb2; clear hb2
    go_wp2_with fail
    refine (K14 _).mono ?_
    rintro e0 w7 ⟨rfl, rfl⟩
    go_wp2_with fail
    refine (K15 _).mono ?_
    rintro e0 w7 ⟨rfl, rfl⟩
    go_wp2_with fail
    cases hp : plainL t.data.toList with
    | false =>
      have e1 : e = ⟨#[]⟩ := by
        apply ByteArray.ext
        apply Array.toList_inj.1
        rw [hed]
        simp [escapedL, hp]
      subst e1
      rw [hp] at K15
      clear hed
      refine (K15 _).mono ?_
      rintro e0 w7 ⟨rfl, rfl⟩
      go_wp2
      go_ret
      exact ⟨rfl, hb1⟩
    | true =>
      rw [hp] at K15
      have hed' : e.data.toList = escL q t.data.toList := by rw [hed]; simp [escapedL, hp]
      have hun : unescL e.data.toList = some t.data.toList := by rw [hed']; exact unesc_esc q _ hp
      have E11 := fun w => c11 e w (by omega)
      rw [hun] at E11
      rw [show (⟨(outU (some t.data.toList)).toArray⟩ : ByteArray) = t from rfl] at E11
      have HE : Hid (∀ x ∈ e.data.toList, endless q x) := by show ∀ x ∈ _, _; rw [hed']; exact esc_endless q _
      have hle : t.size ≤ e.size := by rw [sz t, sz e, hed']; exact esc_longer q _
      clear hed hed' hun hp
      refine (K15 _).mono ?_
      rintro e0 w7 ⟨rfl, rfl⟩
      go_wp2_with fail
      go_loop [11] (fun i => ∃ k : Nat, k ≤ e.size ∧ i = .int .i64 k) (fun i => e.size - (intOf i).toNat)
      case atStart => exact ⟨0, Nat.zero_le _, rfl⟩
      case round =>
        obtain ⟨k, hk, rfl⟩ := hrel
        by_cases hlt : k < e.size
        · obtain ⟨n1, n2, n3⟩ := endless_at q e HE.out k hlt
          have g1 : ((e[k].toNat : Int) == 60) = false := by simp; omega
          cases q
          · have g3 : ((e[k].toNat : Int) == 62) = false := by have := n3 rfl; simp; omega
            go_wp2_with fail
            all_goals
              go_round
              case rel => exact ⟨k + 1, by omega, by go_num⟩
              case measure => simp [intOf]; omega
          · have g3 : ((e[k].toNat : Int) == 34) = false := by have := n2 rfl; simp; omega
            go_wp2_with fail
            all_goals
              go_round
              case rel => exact ⟨k + 1, by omega, by go_num⟩
              case measure => simp [intOf]; omega
        · go_wp2_with fail
          refine (E11 _).mono ?_
          rintro e0 w8 ⟨rfl, hb2⟩
          have hli : (t.size : Int) ≤ (e.size : Int) := by omega
          go_wp2
          go_ret
          exact ⟨rfl, bt hb1 hb2⟩
  · go_enter Try.func3, Try.ntmps3
    go_wp2_with fail
    refine (c7_yes a len cap _ hbig).mono ?_
    rintro e w' ⟨rfl, rfl⟩
    go_wp2
    go_ret
    exact ⟨rfl, Below.refl _ _⟩

end Go.Proofs.Ytigcmabnfmnpmaa
