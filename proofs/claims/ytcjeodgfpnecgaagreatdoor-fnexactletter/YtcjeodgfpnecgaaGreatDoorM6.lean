/- Plain mathematics for this seat: bytes that are plain, what is escaped, what is unescaped; nothing of the program stands here. Contracts of the functions that ask whether bytes are plain. Contracts of what the specification asks of tokens. -/
import Derived.Test.YtcjeodgfpnecgaaGreatDoorRows
import Derived.Test.YtcjeodgfpnecgaaGreatDoorM2
import Derived.Test.YtcjeodgfpnecgaaGreatDoorM5
import Derived.WalkKit
namespace Go.Proofs.YtcjeodgfpnecgaaGreatDoor
open Go.RowKit

/-- Is this byte plain: 32 to 126, or 10? -/
def plainB (c : Int) : Bool := (decide (32 ≤ c) && decide (c ≤ 126)) || (c == 10)

def plainL (l : List UInt8) : Bool := l.all fun c => plainB c.toNat

theorem take_snocE (s : ByteArray) (k : Nat) (h : k < s.size) : s.data.toList.take (k + 1) = s.data.toList.take k ++ [s[k]] := by
  rw [List.take_succ_eq_append_getElem (by simpa using h)]; rfl

theorem plainL_snoc (l : List UInt8) (c : UInt8) : plainL (l ++ [c]) = (plainL l && plainB c.toNat) := by
  simp [plainL]

theorem plainL_full (s : ByteArray) (k : Nat) (h : ¬ k < s.size) : s.data.toList.take k = s.data.toList := by
  have e : s.size = s.data.toList.length := rfl
  exact List.take_of_length_le (by omega)

theorem plainL_no (s : ByteArray) (k : Nat) (h : k < s.size) (hb : plainB s[k].toNat = false) : plainL s.data.toList = false := by
  have hm : s[k] ∈ s.data.toList := by simp [ByteArray.getElem_eq_getElem_data]
  cases hp : plainL s.data.toList with
  | false => rfl
  | true =>
    unfold plainL at hp
    rw [List.all_eq_true] at hp
    have := hp _ hm
    rw [hb] at this
    exact absurd this (by decide)

/-- What a byte is written as, between quotes or not. -/
def escB (q : Bool) (c : UInt8) : List UInt8 :=
  if c.toNat = 38 then [38, 97, 109, 112, 59] else if c.toNat = 60 then [38, 108, 116, 59]
  else if c.toNat = 62 then (if q then [c] else [38, 103, 116, 59]) else if c.toNat = 34 then (if q then [38, 113, 117, 111, 116, 59] else [c]) else [c]

def escL (q : Bool) (l : List UInt8) : List UInt8 := l.flatMap (escB q)

def escapedL (q : Bool) (l : List UInt8) : List UInt8 := if plainL l then escL q l else []

theorem escL_snoc (q : Bool) (l : List UInt8) (c : UInt8) : escL q (l ++ [c]) = escL q l ++ escB q c := by
  simp [escL]

theorem escB_le (q : Bool) (c : UInt8) : (escB q c).length ≤ 6 := by
  unfold escB; (repeat' split) <;> simp

theorem escL_le (q : Bool) (l : List UInt8) : (escL q l).length ≤ 6 * l.length := by
  induction l with
  | nil => simp [escL]
  | cons c l ih =>
    have h : escL q (c :: l) = escB q c ++ escL q l := by simp [escL]
    have := escB_le q c
    rw [h, List.length_append, List.length_cons]
    omega

end Go.Proofs.YtcjeodgfpnecgaaGreatDoor

namespace Go.Proofs.YtcjeodgfpnecgaaGreatDoor
open Go.RowKit

theorem ret_boolE {a b : Bool} (h : a = b) : Ending.returned (.bool a) = .returned (.bool b) := by rw [h]

theorem c_spec_l1Plain (c : Int) (w : World) (h0 : 0 ≤ c) (h1 : c ≤ 255) :
    Calls Tryz.prog 53 #[.int .u8 c] w fun e w' => e = .returned (.bool (plainB c)) ∧ w' = w := by
  go_enter Tryz.func53, Tryz.ntmps53
  go_wp2
  all_goals go_ret
  all_goals exact ⟨ret_boolE (by rw [Bool.eq_iff_iff]; simp [plainB]; omega), rfl⟩

theorem c__impl_sign__plain (c : Int) (w : World) (h0 : 0 ≤ c) (h1 : c ≤ 255) :
    Calls Tryz.prog 119 #[.int .u8 c] w fun e w' => e = .returned (.bool (plainB c)) ∧ w' = w := by
  go_enter Tryz.func119, Tryz.ntmps119
  go_wp2
  all_goals go_ret
  all_goals exact ⟨ret_boolE (by rw [Bool.eq_iff_iff]; simp [plainB]; try omega), rfl⟩

theorem c_spec_PlainOk (s : ByteArray) (w : World) (hs : s.size ≤ maxLen) :
    Calls Tryz.prog 30 #[.string s] w fun e w' => e = .returned (.bool (plainL s.data.toList)) ∧ w' = w := by
  unfold maxLen at hs
  go_enter Tryz.func30, Tryz.ntmps30
  go_wp2
  go_loop [3] (fun i => ∃ k : Nat, k ≤ s.size ∧ i = .int .i64 k ∧ plainL (s.data.toList.take k) = true) (fun i => s.size - (intOf i).toNat)
  case atStart => exact ⟨0, Nat.zero_le _, rfl, rfl⟩
  case round =>
    obtain ⟨k, hk, rfl, hp⟩ := hrel
    by_cases hlt : k < s.size
    · have HP : Hid (plainL (s.data.toList.take k) = true) := hp
      clear hp
      have hb : (s[k].toNat : Int) ≤ 255 := by have := s[k].toNat_lt; omega
      cases hc : plainB s[k].toNat
      · go_wp2_with (go_at_call 53; refine (c_spec_l1Plain _ _ (by omega) hb).mono ?_; rintro e w' ⟨rfl, rfl⟩)
        go_ret
        exact ⟨ret_boolE (plainL_no s k hlt hc).symm, rfl⟩
      · go_wp2_with (go_at_call 53; refine (c_spec_l1Plain _ _ (by omega) hb).mono ?_; rintro e w' ⟨rfl, rfl⟩)
        go_round
        case rel => exact ⟨k + 1, by omega, by go_num, by rw [take_snocE s k hlt, plainL_snoc, HP.out, hc]; rfl⟩
        case measure => simp [intOf]; omega
    · go_wp2
      go_ret
      exact ⟨ret_boolE (by rw [← plainL_full s k hlt]; exact hp.symm), rfl⟩

theorem c_impl_allSignsE (s : ByteArray) (w : World) (hs : s.size ≤ maxLen) :
    Calls Tryz.prog 87 #[.string s, .func (.func 119) #[] #[]] w fun e w' => e = .returned (.bool (plainL s.data.toList)) ∧ w' = w := by
  unfold maxLen at hs
  go_enter Tryz.func87, Tryz.ntmps87
  go_wp2
  go_loop [8] (fun i => ∃ k : Nat, k ≤ s.size ∧ i = .int .i64 k ∧ plainL (s.data.toList.take k) = true) (fun i => s.size - (intOf i).toNat)
  case atStart => exact ⟨0, Nat.zero_le _, rfl, rfl⟩
  case round =>
    obtain ⟨k, hk, rfl, hp⟩ := hrel
    by_cases hlt : k < s.size
    · have HP : Hid (plainL (s.data.toList.take k) = true) := hp
      clear hp
      have hb : (s[k].toNat : Int) ≤ 255 := by have := s[k].toNat_lt; omega
      cases hc : plainB s[k].toNat
      · go_wp2_with (go_at_call 119; refine (c__impl_sign__plain _ _ (by omega) hb).mono ?_; rintro e w' ⟨rfl, rfl⟩)
        go_ret
        exact ⟨ret_boolE (plainL_no s k hlt hc).symm, rfl⟩
      · go_wp2_with (go_at_call 119; refine (c__impl_sign__plain _ _ (by omega) hb).mono ?_; rintro e w' ⟨rfl, rfl⟩)
        go_round
        case rel => exact ⟨k + 1, by omega, by go_num, by rw [take_snocE s k hlt, plainL_snoc, HP.out, hc]; rfl⟩
        case measure => simp [intOf]; omega
    · go_wp2
      go_ret
      exact ⟨ret_boolE (by rw [← plainL_full s k hlt]; exact hp.symm), rfl⟩

theorem c_impl_PlainOk (s : ByteArray) (w : World) (hs : s.size ≤ maxLen) :
    Calls Tryz.prog 107 #[.string s] w fun e w' => e = .returned (.bool (plainL s.data.toList)) ∧ w' = w := by
  go_enter Tryz.func107, Tryz.ntmps107
  go_wp2_with (go_at_call 87; refine (c_impl_allSignsE _ _ hs).mono ?_; rintro e w' ⟨rfl, rfl⟩)
  go_ret
  exact ⟨rfl, rfl⟩

end Go.Proofs.YtcjeodgfpnecgaaGreatDoor

namespace Go.Proofs.YtcjeodgfpnecgaaGreatDoor
open Go.RowKit
set_option linter.unusedVariables false
set_option linter.unusedSimpArgs false

/-- An attr that is right. -/
def atOk (x : At) : Prop := nameL x.name.data.toList = true ∧ plainL x.value.data.toList = true ∧ x.value.size ≤ 60

/-- The first n of these are right, and no two names of them alike. -/
def AtsOk (n : Nat) (l : List At) : Prop := (∀ j (h : j < l.length), j < n → atOk l[j]) ∧ ∀ i j (hi : i < l.length) (hj : j < i), i < n → ¬ l[j].name = l[i].name

/-- Attrs that are right. -/
def AttrsOk (l : List At) : Prop := l.length ≤ 6 ∧ AtsOk l.length l

noncomputable def attrsB (l : List At) : Bool := open Classical in decide (AttrsOk l)

theorem attrsB_t {l : List At} (h : AttrsOk l) : attrsB l = true := by unfold attrsB; simp [h]

theorem attrsB_f {l : List At} (h : ¬ AttrsOk l) : attrsB l = false := by unfold attrsB; simp [h]

theorem AtsOk.next {l : List At} {i : Nat} (hi : i < l.length) (h : AtsOk i l) (h1 : atOk l[i]) (h2 : ∀ j (hj : j < i), ¬ l[j].name = l[i].name) : AtsOk (i + 1) l := by
  refine ⟨fun j hj hlt => ?_, fun a b ha hb hlt => ?_⟩
  · rcases Nat.lt_or_eq_of_le (Nat.le_of_lt_succ hlt) with h' | h'
    · exact h.1 j hj h'
    · subst h'; exact h1
  · rcases Nat.lt_or_eq_of_le (Nat.le_of_lt_succ hlt) with h' | h'
    · exact h.2 a b ha hb h'
    · subst h'; exact h2 b hb

theorem bytes_beq (a b : ByteArray) : (a.toList == b.toList) = decide (a = b) := str_beq a b

theorem c_spec_In7 (x lo hi : Int) (w : World) :
    Calls Tryz.prog 31 #[.int .i64 x, .int .i64 lo, .int .i64 hi] w fun e w' => e = .returned (.bool (decide (lo ≤ x ∧ x ≤ hi))) ∧ w' = w := by
  go_enter Tryz.func31, Tryz.ntmps31
  go_wp2
  all_goals go_ret
  all_goals exact ⟨by congr 2; simp; try omega, rfl⟩

end Go.Proofs.YtcjeodgfpnecgaaGreatDoor
