/- Contracts of spec.NameOk and spec.Parts. Plain mathematics for this seat: bytes that are plain, what is escaped, what is unescaped; nothing of the program stands here. -/
import Derived.Test.YtcjeodgfpnecgaaRows
import Derived.Test.YtcjeodgfpnecgaaM7
import Derived.Test.YtcjeodgfpnecgaaM8
import Derived.WalkKit
import Derived.Deep.QuietTactic
import Derived.BigQuiet
namespace Go.Proofs.Ytcjeodgfpnecgaa
open Go.RowKit
set_option linter.unusedVariables false
set_option linter.unusedSimpArgs false

theorem pieceA_le (l : List UInt8) : ∀ cur p, p ∈ splitA cur l → p.length ≤ cur.length + l.length := by
  induction l with
  | nil => intro cur p h; simp [splitA] at h; subst h; simp
  | cons c r ih =>
    intro cur p h
    rw [splitA] at h
    split at h
    · rw [List.mem_cons] at h
      rcases h with h | h
      · subst h; simp
      · have := ih _ _ h; simp at this ⊢; omega
    · have := ih _ _ h; simp at this ⊢; omega

theorem piece_le {l p : List UInt8} (h : p ∈ splitL l) : p.length ≤ l.length := by
  have := pieceA_le l [] p h
  simpa using this

theorem own_at {w : World} {B : Nat} {v : Value} {n : Nat} {xs : List Value} (h : w.ownsRow B 9 1 v n xs) (hn : 0 < n) :
    ∃ g cap, v = .slice (some ⟨g, 0, none⟩) n cap ∧ ∀ j u, xs[j]? = some u → w.cell? ⟨g, j, none⟩ = some u := by
  rcases h.2 with ⟨_, h0⟩ | ⟨g, cap, cur, hv, _⟩
  · omega
  · refine ⟨g, cap, hv, fun j u hj => ?_⟩
    have := h.cells (g := g) (by rw [hv]; rfl) j u hj
    have hplain : (⟨g, 0, none⟩ : Addr).add j = ⟨g, j, none⟩ := by unfold Addr.add; split <;> simp_all
    rw [hplain] at this
    exact this

theorem c_spec_l1Letters' (a : List UInt8) (h : a.length ≤ 1048576) (w : World) : Calls Try.prog 53 #[strV a] w fun e w' => e = .returned (.bool (lettersL a)) ∧ w' = w :=
  c_spec_l1Letters ⟨a.toArray⟩ w (by rw [size_mk]; unfold maxLen; omega)

theorem split_shape (l : List UInt8) : (∃ a, splitL l = [a]) ∨ (∃ a b, splitL l = [a, b]) ∨ 3 ≤ (splitL l).length := by
  match h : splitL l with
  | [] =>
    exfalso
    cases hx : colonAt l with
    | none => rw [splitL_no hx] at h; simp at h
    | some c => rw [splitL_some hx] at h; simp at h
  | [a] => exact .inl ⟨a, rfl⟩
  | [a, b] => exact .inr (.inl ⟨a, b, rfl⟩)
  | a :: b :: c :: r => exact .inr (.inr (by simp))

theorem piecesOk_long {p : List (List UInt8)} (h : 3 ≤ p.length) : piecesOk p = false := by
  match p, h with
  | a :: b :: c :: r, _ => rfl

set_option maxHeartbeats 4000000 in
theorem c_spec_NameOk (s : ByteArray) (w : World) (h0 : s.size ≤ 1048576) :
    Calls Try.prog 30 #[.string s] w fun e w' => e = .returned (.bool (nameL s.data.toList)) ∧ Below w.heap.size w w' := by
  have C := fun w => c_spec_l1Split s w h0
  rw [← pieces_name]
  rcases split_shape s.data.toList with ⟨a, h⟩ | ⟨a, b, h⟩ | h
  · have ha : a.length ≤ 1048576 := by have := piece_le (l := s.data.toList) (p := a) (by rw [h]; simp); rw [← sz s] at this; omega
    rw [h] at C ⊢
    clear h
    have L1 := c_spec_l1Letters' a ha
    cases hb : lettersL a with
    | true =>
      rw [hb] at L1
      have e : piecesOk [a] = true := hb
      rw [e]
      clear hb e
      go_enter Try.func30, Try.ntmps30
      go_wp2_with (first | (go_at_call 52; refine (C _).mono ?_; rintro e w1 ⟨v, rfl, hown, hbel⟩; obtain ⟨g, cap, rfl, hcells⟩ := own_at hown (by simp); have k0 := hcells 0 (strV a) rfl; clear hcells hown) | (go_at_call 53; refine (L1 _).mono ?_; rintro e w2 ⟨rfl, rfl⟩))
      go_ret
      exact ⟨rfl, hbel⟩
    | false =>
      rw [hb] at L1
      have e : piecesOk [a] = false := hb
      rw [e]
      clear hb e
      go_enter Try.func30, Try.ntmps30
      go_wp2_with (first | (go_at_call 52; refine (C _).mono ?_; rintro e w1 ⟨v, rfl, hown, hbel⟩; obtain ⟨g, cap, rfl, hcells⟩ := own_at hown (by simp); have k0 := hcells 0 (strV a) rfl; clear hcells hown) | (go_at_call 53; refine (L1 _).mono ?_; rintro e w2 ⟨rfl, rfl⟩))
      go_ret
      exact ⟨rfl, hbel⟩
  · have ha : a.length ≤ 1048576 := by have := piece_le (l := s.data.toList) (p := a) (by rw [h]; simp); rw [← sz s] at this; omega
    have hb : b.length ≤ 1048576 := by have := piece_le (l := s.data.toList) (p := b) (by rw [h]; simp); rw [← sz s] at this; omega
    rw [h] at C ⊢
    clear h
    have L1 := c_spec_l1Letters' a ha
    have L2 := c_spec_l1Letters' b hb
    clear ha hb
    have e : piecesOk [a, b] = (lettersL a && lettersL b) := rfl
    rw [e]
    clear e
    obtain ⟨x, hx⟩ : ∃ x, strV a = x := ⟨_, rfl⟩
    obtain ⟨y, hy⟩ : ∃ y, strV b = y := ⟨_, rfl⟩
    have exy : [a, b].map strV = [x, y] := by rw [← hx, ← hy]; rfl
    rw [exy] at C
    rw [hx] at L1
    rw [hy] at L2
    clear hx hy exy
    cases ba : lettersL a with
    | true =>
      rw [ba] at L1
      rw [Bool.true_and]
      clear ba
      go_enter Try.func30, Try.ntmps30
      go_wp2_with (go_at_call 52; refine (C _).mono ?_; rintro e w1 ⟨v, rfl, hown, hbel⟩; obtain ⟨g, cap, rfl, hcells⟩ := own_at hown (by simp); have k0 := hcells 0 x rfl; have k1 := hcells 1 y rfl; clear hcells hown)
      refine (L1 _).mono ?_
      rintro e w2 ⟨rfl, rfl⟩
      go_wp2_with fail
      refine (L2 _).mono ?_
      rintro e w2 ⟨rfl, rfl⟩
      go_wp2
      go_ret
      exact ⟨rfl, hbel⟩
    | false =>
      rw [ba] at L1
      rw [Bool.false_and]
      clear ba
      go_enter Try.func30, Try.ntmps30
      go_wp2_with (go_at_call 52; refine (C _).mono ?_; rintro e w1 ⟨v, rfl, hown, hbel⟩; obtain ⟨g, cap, rfl, hcells⟩ := own_at hown (by simp); have k0 := hcells 0 x rfl; have k1 := hcells 1 y rfl; clear hcells hown)
      refine (L1 _).mono ?_
      rintro e w2 ⟨rfl, rfl⟩
      go_wp2_with fail
      go_ret
      exact ⟨rfl, hbel⟩
  · rw [piecesOk_long h]
    obtain ⟨n, hn⟩ : ∃ n, (splitL s.data.toList).length = n := ⟨_, rfl⟩
    rw [hn] at h C
    clear hn
    have n1 : ((n : Int) == 1) = false := by simp; omega
    have n2 : ((n : Int) == 2) = false := by simp; omega
    go_enter Try.func30, Try.ntmps30
    go_wp2_with (go_at_call 52; refine (C _).mono ?_; rintro e w1 ⟨v, rfl, hown, hbel⟩; obtain ⟨g, cap, rfl, hcells⟩ := own_at hown (by omega); clear hcells hown)
    go_ret
    exact ⟨rfl, hbel⟩

theorem drewN_below {B : Nat} {w w1 : World} (h : Below B w w1) (n : Nat) : Below B w (w1.drewN n) := ⟨h.os, h.tape, h.output, h.size, h.block⟩

/-- Which pieces a good name has. -/
theorem good_shape {l : List UInt8} (h : nameL l = true) : (∃ a, splitL l = [a] ∧ partP l = [] ∧ partL l = a) ∨ ∃ a b, splitL l = [a, b] ∧ partP l = a ∧ partL l = b := by
  cases hc : colonAt l with
  | none => exact .inl ⟨l, splitL_no hc, by simp [partP, h, preL, hc], by simp [partL, h, locL, hc]⟩
  | some a =>
    cases h2 : colonAt (l.drop (a + 1)) with
    | none => exact .inr ⟨l.take a, l.drop (a + 1), by rw [splitL_some hc, splitL_no h2], by simp [partP, h, preL, hc], by simp [partL, h, locL, hc]⟩
    | some b =>
      exfalso
      have hn : lettersL (l.drop (a + 1)) = false := colon_letters h2
      simp [nameL, hc, locL, hn] at h

end Go.Proofs.Ytcjeodgfpnecgaa

namespace Go.Proofs.Ytcjeodgfpnecgaa
open Go.RowKit

/-- Is this byte plain: 32 to 126, or 10? -/
def plainB (c : Int) : Bool := (decide (32 ≤ c) && decide (c ≤ 126)) || (c == 10)

def plainL (l : List UInt8) : Bool := l.all fun c => plainB c.toNat

theorem take_snocE (s : ByteArray) (k : Nat) (h : k < s.size) : s.data.toList.take (k + 1) = s.data.toList.take k ++ [s[k]] := by
  rw [List.take_succ_eq_append_getElem (by simpa using h)]; rfl

theorem plainL_snoc (l : List UInt8) (c : UInt8) : plainL (l ++ [c]) = (plainL l && plainB c.toNat) := by
  simp [plainL]

theorem plainL_full (s : ByteArray) (k : Nat) (h : ¬ k < s.size) : s.data.toList.take k = s.data.toList := by
  have e : s.size = s.data.toList.length := rfl
  exact List.take_of_length_le (by omega)

theorem plainL_no (s : ByteArray) (k : Nat) (h : k < s.size) (hb : plainB s[k].toNat = false) : plainL s.data.toList = false := by
  have hm : s[k] ∈ s.data.toList := by simp [ByteArray.getElem_eq_getElem_data]
  cases hp : plainL s.data.toList with
  | false => rfl
  | true =>
    unfold plainL at hp
    rw [List.all_eq_true] at hp
    have := hp _ hm
    rw [hb] at this
    exact absurd this (by decide)

/-- What a byte is written as, between quotes or not. -/
def escB (q : Bool) (c : UInt8) : List UInt8 :=
  if c.toNat = 38 then [38, 97, 109, 112, 59] else if c.toNat = 60 then [38, 108, 116, 59]
  else if c.toNat = 62 then (if q then [c] else [38, 103, 116, 59]) else if c.toNat = 34 then (if q then [38, 113, 117, 111, 116, 59] else [c]) else [c]

def escL (q : Bool) (l : List UInt8) : List UInt8 := l.flatMap (escB q)

def escapedL (q : Bool) (l : List UInt8) : List UInt8 := if plainL l then escL q l else []

theorem escL_snoc (q : Bool) (l : List UInt8) (c : UInt8) : escL q (l ++ [c]) = escL q l ++ escB q c := by
  simp [escL]

theorem escB_le (q : Bool) (c : UInt8) : (escB q c).length ≤ 6 := by
  unfold escB; (repeat' split) <;> simp

theorem escL_le (q : Bool) (l : List UInt8) : (escL q l).length ≤ 6 * l.length := by
  induction l with
  | nil => simp [escL]
  | cons c l ih =>
    have h : escL q (c :: l) = escB q c ++ escL q l := by simp [escL]
    have := escB_le q c
    rw [h, List.length_append, List.length_cons]
    omega

end Go.Proofs.Ytcjeodgfpnecgaa
