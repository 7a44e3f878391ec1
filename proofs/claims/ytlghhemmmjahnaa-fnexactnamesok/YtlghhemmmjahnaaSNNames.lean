/- Contracts of spec.NameOk and spec.Parts. -/
import Derived.Test.YtlghhemmmjahnaaRows
import Derived.Test.YtlghhemmmjahnaaSNSpec
import Derived.Test.YtlghhemmmjahnaaSNClone
import Derived.WalkKit
import Derived.Deep.QuietTactic
import Derived.BigQuiet
namespace Go.Proofs.Ytlghhemmmjahnaa
open Go.RowKit
set_option linter.unusedVariables false
set_option linter.unusedSimpArgs false

theorem pieceA_le (l : List UInt8) : ∀ cur p, p ∈ splitA cur l → p.length ≤ cur.length + l.length := by
  induction l with
  | nil => intro cur p h; simp [splitA] at h; subst h; simp
  | cons c r ih =>
    intro cur p h
    rw [splitA] at h
    split at h
    · rw [List.mem_cons] at h
      rcases h with h | h
      · subst h; simp
      · have := ih _ _ h; simp at this ⊢; omega
    · have := ih _ _ h; simp at this ⊢; omega

theorem piece_le {l p : List UInt8} (h : p ∈ splitL l) : p.length ≤ l.length := by
  have := pieceA_le l [] p h
  simpa using this

theorem own_at {w : World} {B : Nat} {v : Value} {n : Nat} {xs : List Value} (h : w.ownsRow B 9 1 v n xs) (hn : 0 < n) :
    ∃ g cap, v = .slice (some ⟨g, 0, none⟩) n cap ∧ ∀ j u, xs[j]? = some u → w.cell? ⟨g, j, none⟩ = some u := by
  rcases h.2 with ⟨_, h0⟩ | ⟨g, cap, cur, hv, _⟩
  · omega
  · refine ⟨g, cap, hv, fun j u hj => ?_⟩
    have := h.cells (g := g) (by rw [hv]; rfl) j u hj
    have hplain : (⟨g, 0, none⟩ : Addr).add j = ⟨g, j, none⟩ := by unfold Addr.add; split <;> simp_all
    rw [hplain] at this
    exact this

theorem c_spec_l1Letters' (a : List UInt8) (h : a.length ≤ 1048576) (w : World) : Calls Try.prog 75 #[strV a] w fun e w' => e = .returned (.bool (lettersL a)) ∧ w' = w :=
  c_spec_l1Letters ⟨a.toArray⟩ w (by rw [size_mk]; unfold maxLen; omega)

theorem split_shape (l : List UInt8) : (∃ a, splitL l = [a]) ∨ (∃ a b, splitL l = [a, b]) ∨ 3 ≤ (splitL l).length := by
  match h : splitL l with
  | [] =>
    exfalso
    cases hx : colonAt l with
    | none => rw [splitL_no hx] at h; simp at h
    | some c => rw [splitL_some hx] at h; simp at h
  | [a] => exact .inl ⟨a, rfl⟩
  | [a, b] => exact .inr (.inl ⟨a, b, rfl⟩)
  | a :: b :: c :: r => exact .inr (.inr (by simp))

theorem piecesOk_long {p : List (List UInt8)} (h : 3 ≤ p.length) : piecesOk p = false := by
  match p, h with
  | a :: b :: c :: r, _ => rfl

set_option maxHeartbeats 4000000 in
theorem c_spec_NameOk (s : ByteArray) (w : World) (h0 : s.size ≤ 1048576) :
    Calls Try.prog 51 #[.string s] w fun e w' => e = .returned (.bool (nameL s.data.toList)) ∧ Below w.heap.size w w' := by
  have C := fun w => c_spec_l1Split s w h0
  rw [← pieces_name]
  rcases split_shape s.data.toList with ⟨a, h⟩ | ⟨a, b, h⟩ | h
  · have ha : a.length ≤ 1048576 := by have := piece_le (l := s.data.toList) (p := a) (by rw [h]; simp); rw [← sz s] at this; omega
    rw [h] at C ⊢
    clear h
    have L1 := c_spec_l1Letters' a ha
    cases hb : lettersL a with
    | true =>
      rw [hb] at L1
      have e : piecesOk [a] = true := hb
      rw [e]
      clear hb e
      go_enter Try.func51, Try.ntmps51
      go_wp2_with (first | (go_at_call 52; refine (C _).mono ?_; rintro e w1 ⟨v, rfl, hown, hbel⟩; obtain ⟨g, cap, rfl, hcells⟩ := own_at hown (by simp); have k0 := hcells 0 (strV a) rfl; clear hcells hown) | (go_at_call 75; refine (L1 _).mono ?_; rintro e w2 ⟨rfl, rfl⟩))
      go_ret
      exact ⟨rfl, hbel⟩
    | false =>
      rw [hb] at L1
      have e : piecesOk [a] = false := hb
      rw [e]
      clear hb e
      go_enter Try.func51, Try.ntmps51
      go_wp2_with (first | (go_at_call 52; refine (C _).mono ?_; rintro e w1 ⟨v, rfl, hown, hbel⟩; obtain ⟨g, cap, rfl, hcells⟩ := own_at hown (by simp); have k0 := hcells 0 (strV a) rfl; clear hcells hown) | (go_at_call 75; refine (L1 _).mono ?_; rintro e w2 ⟨rfl, rfl⟩))
      go_ret
      exact ⟨rfl, hbel⟩
  · have ha : a.length ≤ 1048576 := by have := piece_le (l := s.data.toList) (p := a) (by rw [h]; simp); rw [← sz s] at this; omega
    have hb : b.length ≤ 1048576 := by have := piece_le (l := s.data.toList) (p := b) (by rw [h]; simp); rw [← sz s] at this; omega
    rw [h] at C ⊢
    clear h
    have L1 := c_spec_l1Letters' a ha
    have L2 := c_spec_l1Letters' b hb
    clear ha hb
    have e : piecesOk [a, b] = (lettersL a && lettersL b) := rfl
    rw [e]
    clear e
    obtain ⟨x, hx⟩ : ∃ x, strV a = x := ⟨_, rfl⟩
    obtain ⟨y, hy⟩ : ∃ y, strV b = y := ⟨_, rfl⟩
    have exy : [a, b].map strV = [x, y] := by rw [← hx, ← hy]; rfl
    rw [exy] at C
    rw [hx] at L1
    rw [hy] at L2
    clear hx hy exy
    cases ba : lettersL a with
    | true =>
      rw [ba] at L1
      rw [Bool.true_and]
      clear ba
      go_enter Try.func51, Try.ntmps51
      go_wp2_with (go_at_call 52; refine (C _).mono ?_; rintro e w1 ⟨v, rfl, hown, hbel⟩; obtain ⟨g, cap, rfl, hcells⟩ := own_at hown (by simp); have k0 := hcells 0 x rfl; have k1 := hcells 1 y rfl; clear hcells hown)
      refine (L1 _).mono ?_
      rintro e w2 ⟨rfl, rfl⟩
      go_wp2_with fail
      refine (L2 _).mono ?_
      rintro e w2 ⟨rfl, rfl⟩
      go_wp2
      go_ret
      exact ⟨rfl, hbel⟩
    | false =>
      rw [ba] at L1
      rw [Bool.false_and]
      clear ba
      go_enter Try.func51, Try.ntmps51
      go_wp2_with (go_at_call 52; refine (C _).mono ?_; rintro e w1 ⟨v, rfl, hown, hbel⟩; obtain ⟨g, cap, rfl, hcells⟩ := own_at hown (by simp); have k0 := hcells 0 x rfl; have k1 := hcells 1 y rfl; clear hcells hown)
      refine (L1 _).mono ?_
      rintro e w2 ⟨rfl, rfl⟩
      go_wp2_with fail
      go_ret
      exact ⟨rfl, hbel⟩
  · rw [piecesOk_long h]
    obtain ⟨n, hn⟩ : ∃ n, (splitL s.data.toList).length = n := ⟨_, rfl⟩
    rw [hn] at h C
    clear hn
    have n1 : ((n : Int) == 1) = false := by simp; omega
    have n2 : ((n : Int) == 2) = false := by simp; omega
    go_enter Try.func51, Try.ntmps51
    go_wp2_with (go_at_call 52; refine (C _).mono ?_; rintro e w1 ⟨v, rfl, hown, hbel⟩; obtain ⟨g, cap, rfl, hcells⟩ := own_at hown (by omega); clear hcells hown)
    go_ret
    exact ⟨rfl, hbel⟩

theorem drewN_below {B : Nat} {w w1 : World} (h : Below B w w1) (n : Nat) : Below B w (w1.drewN n) := ⟨h.os, h.tape, h.output, h.size, h.block⟩

/-- Which pieces a good name has. -/
theorem good_shape {l : List UInt8} (h : nameL l = true) : (∃ a, splitL l = [a] ∧ partP l = [] ∧ partL l = a) ∨ ∃ a b, splitL l = [a, b] ∧ partP l = a ∧ partL l = b := by
  cases hc : colonAt l with
  | none => exact .inl ⟨l, splitL_no hc, by simp [partP, h, preL, hc], by simp [partL, h, locL, hc]⟩
  | some a =>
    cases h2 : colonAt (l.drop (a + 1)) with
    | none => exact .inr ⟨l.take a, l.drop (a + 1), by rw [splitL_some hc, splitL_no h2], by simp [partP, h, preL, hc], by simp [partL, h, locL, hc]⟩
    | some b =>
      exfalso
      have hn : lettersL (l.drop (a + 1)) = false := colon_letters h2
      simp [nameL, hc, locL, hn] at h

set_option maxHeartbeats 4000000 in
theorem c_spec_Parts (s : ByteArray) (w : World) (h0 : s.size ≤ 1048576) :
    Calls Try.prog 28 #[.string s] w fun e w' => e = .returned (.tuple #[.string ⟨(partP s.data.toList).toArray⟩, .string ⟨(partL s.data.toList).toArray⟩]) ∧ Below w.heap.size w w' := by
  have C := fun w => c_spec_l1Split s w h0
  have K := fun w => c_spec_NameOk s w h0
  cases hn : nameL s.data.toList with
  | false =>
    have e1 : partP s.data.toList = [] := by simp [partP, hn]
    have e2 : partL s.data.toList = [] := by simp [partL, hn]
    rw [e1, e2]
    rw [hn] at K
    clear e1 e2 hn
    go_enter Try.func28, Try.ntmps28
    go_wp2_with (go_at_call 51; refine (K _).mono ?_; rintro e w1 ⟨rfl, hb⟩)
    go_ret2
    exact ⟨rfl, hb⟩
  | true =>
    rw [hn] at K
    rcases good_shape hn with ⟨a, h, e1, e2⟩ | ⟨a, b, h, e1, e2⟩
    · rw [e1, e2]
      rw [h] at C
      clear hn h e1 e2
      go_enter Try.func28, Try.ntmps28
      go_wp2_with (first | (go_at_call 51; refine (K _).mono ?_; rintro e w1 ⟨rfl, hb⟩) | (go_at_call 52; refine (C _).mono ?_; rintro e w2 ⟨v, rfl, hown, hb2⟩; obtain ⟨g, cap, rfl, hcells⟩ := own_at hown (by simp); have k0 := hcells 0 (strV a) rfl; clear hcells hown))
      go_quiet (fail)
      go_wp2
      go_ret2
      exact ⟨rfl, drewN_below (hb.trans (hb2.mono hb.size)) _⟩
    · rw [e1, e2]
      rw [h] at C
      clear hn h e1 e2
      go_enter Try.func28, Try.ntmps28
      go_wp2_with (first | (go_at_call 51; refine (K _).mono ?_; rintro e w1 ⟨rfl, hb⟩) | (go_at_call 52; refine (C _).mono ?_; rintro e w2 ⟨v, rfl, hown, hb2⟩; obtain ⟨g, cap, rfl, hcells⟩ := own_at hown (by simp); have k0 := hcells 0 (strV a) rfl; have k1 := hcells 1 (strV b) rfl; clear hcells hown))
      go_quiet (fail)
      go_wp2
      go_ret2
      exact ⟨rfl, drewN_below (hb.trans (hb2.mono hb.size)) _⟩

end Go.Proofs.Ytlghhemmmjahnaa
