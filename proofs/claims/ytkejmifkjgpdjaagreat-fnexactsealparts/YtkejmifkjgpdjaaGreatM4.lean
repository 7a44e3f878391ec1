/- Plain mathematics of names: letters, a text split at colons, a name and its two parts. Contracts of impl: letters, the first colon, a name split, NameOk. Contracts of spec: letters, a text split at colons. -/
import Derived.Test.YtkejmifkjgpdjaaGreatRows
import Derived.Test.YtkejmifkjgpdjaaGreatM1
import Derived.WalkKit
import Derived.Deep.QuietTactic
import Derived.BigQuiet
import Derived.OwnWalk
namespace Go.Proofs.YtkejmifkjgpdjaaGreat
open Go.RowKit

def letB (c : Int) : Bool := (decide (97 ≤ c) && decide (c ≤ 122)) || (decide (65 ≤ c) && decide (c ≤ 90))

def allL (l : List UInt8) : Bool := l.all fun c => letB c.toNat

/-- One to ten letters. -/
def lettersL (l : List UInt8) : Bool := (decide (1 ≤ l.length) && decide (l.length ≤ 10)) && allL l

theorem sz (s : ByteArray) : s.size = s.data.toList.length := rfl

theorem take_snoc (s : ByteArray) (k : Nat) (h : k < s.size) : s.data.toList.take (k + 1) = s.data.toList.take k ++ [s[k]] := by
  rw [List.take_succ_eq_append_getElem (by simpa using h)]; rfl

theorem take_full (s : ByteArray) (k : Nat) (h : ¬ k < s.size) : s.data.toList.take k = s.data.toList := by
  have e : s.size = s.data.toList.length := rfl
  exact List.take_of_length_le (by omega)

theorem allL_snoc (l : List UInt8) (c : UInt8) : allL (l ++ [c]) = (allL l && letB c.toNat) := by
  simp [allL]

theorem allL_no (s : ByteArray) (k : Nat) (h : k < s.size) (hb : letB s[k].toNat = false) : allL s.data.toList = false := by
  have hm : s[k] ∈ s.data.toList := by simp [ByteArray.getElem_eq_getElem_data]
  cases hp : allL s.data.toList with
  | false => rfl
  | true =>
    unfold allL at hp
    rw [List.all_eq_true] at hp
    have := hp _ hm
    rw [hb] at this
    exact absurd this (by decide)

/-- The pieces between the colons. -/
def splitA : List UInt8 → List UInt8 → List (List UInt8)
  | cur, [] => [cur]
  | cur, c :: r => if c.toNat = 58 then cur :: splitA [] r else splitA (cur ++ [c]) r

def splitL (l : List UInt8) : List (List UInt8) := splitA [] l

/-- Where the first colon stands. -/
def colonAt (l : List UInt8) : Option Nat := l.findIdx? fun c => c.toNat == 58

def preL (l : List UInt8) : List UInt8 := match colonAt l with
  | none => []
  | some a => l.take a

def locL (l : List UInt8) : List UInt8 := match colonAt l with
  | none => l
  | some a => l.drop (a + 1)

def nameL (l : List UInt8) : Bool := match colonAt l with
  | none => lettersL l
  | some _ => lettersL (preL l) && lettersL (locL l)

theorem splitA_no (l : List UInt8) : ∀ cur, colonAt l = none → splitA cur l = [cur ++ l] := by
  induction l with
  | nil => intro cur _; simp [splitA]
  | cons c r ih =>
    intro cur h
    unfold colonAt at h
    rw [List.findIdx?_cons] at h
    split at h
    · simp at h
    · rename_i hc
      have hr : colonAt r = none := by
        unfold colonAt
        cases hh : List.findIdx? (fun c : UInt8 => c.toNat == 58) r with
        | none => rfl
        | some a => rw [hh] at h; simp at h
      rw [splitA, if_neg (by simpa using hc), ih _ hr]
      simp

theorem splitA_some (l : List UInt8) : ∀ cur a, colonAt l = some a → splitA cur l = (cur ++ l.take a) :: splitA [] (l.drop (a + 1)) := by
  induction l with
  | nil => intro cur a h; simp [colonAt] at h
  | cons c r ih =>
    intro cur a h
    unfold colonAt at h
    rw [List.findIdx?_cons] at h
    split at h
    · rename_i hc
      simp at h
      subst h
      rw [splitA, if_pos (by simpa using hc)]
      simp
    · rename_i hc
      cases hh : List.findIdx? (fun c : UInt8 => c.toNat == 58) r with
      | none => rw [hh] at h; simp at h
      | some b =>
        rw [hh] at h
        simp at h
        subst h
        rw [splitA, if_neg (by simpa using hc), ih _ b hh]
        simp

theorem splitL_no {l : List UInt8} (h : colonAt l = none) : splitL l = [l] := by
  unfold splitL; rw [splitA_no l [] h]; rfl

theorem splitL_some {l : List UInt8} {a : Nat} (h : colonAt l = some a) : splitL l = l.take a :: splitL (l.drop (a + 1)) := by
  unfold splitL; rw [splitA_some l [] a h]; rfl

theorem colon_mem {l : List UInt8} {a : Nat} (h : colonAt l = some a) : ∃ c, c ∈ l ∧ c.toNat = 58 := by
  unfold colonAt at h
  obtain ⟨ha, hp, _⟩ := List.findIdx?_eq_some_iff_getElem.1 h
  exact ⟨l[a], List.getElem_mem ha, by simpa using hp⟩

theorem colon_letters {l : List UInt8} {a : Nat} (h : colonAt l = some a) : lettersL l = false := by
  obtain ⟨c, hm, hc⟩ := colon_mem h
  have : allL l = false := by
    cases hp : allL l with
    | false => rfl
    | true =>
      unfold allL at hp
      rw [List.all_eq_true] at hp
      have := hp c hm
      rw [hc] at this
      exact absurd this (by decide)
  simp [lettersL, this]

/-- What spec.NameOk asks of the pieces. -/
def piecesOk (p : List (List UInt8)) : Bool := match p with
  | [a] => lettersL a
  | [a, b] => lettersL a && lettersL b
  | _ => false

theorem pieces_name (l : List UInt8) : piecesOk (splitL l) = nameL l := by
  cases h : colonAt l with
  | none => rw [splitL_no h]; simp [piecesOk, nameL, h]
  | some a =>
    rw [splitL_some h]
    cases h2 : colonAt (l.drop (a + 1)) with
    | none => rw [splitL_no h2]; simp [piecesOk, nameL, preL, locL, h]
    | some b =>
      have hn : lettersL (l.drop (a + 1)) = false := colon_letters h2
      rw [splitL_some h2]
      have hne : ∀ x, splitL x ≠ [] := by
        intro x
        cases hx : colonAt x with
        | none => rw [splitL_no hx]; simp
        | some c => rw [splitL_some hx]; simp
      cases h3 : splitL ((l.drop (a + 1)).drop (b + 1)) with
      | nil => exact absurd h3 (hne _)
      | cons x y => simp [piecesOk, nameL, preL, locL, h, hn]

end Go.Proofs.YtkejmifkjgpdjaaGreat

namespace Go.Proofs.YtkejmifkjgpdjaaGreat
open Go.RowKit
set_option linter.unusedVariables false
set_option linter.unusedSimpArgs false

theorem ret_bool {a b : Bool} (h : a = b) : Ending.returned (.bool a) = .returned (.bool b) := by rw [h]

theorem c__impl_sign__letter (c : Int) (w : World) (h0 : 0 ≤ c) (h1 : c ≤ 255) :
    Calls Tryz.prog 149 #[.int .u8 c] w fun e w' => e = .returned (.bool (letB c)) ∧ w' = w := by
  go_enter Tryz.func149, Tryz.ntmps149
  go_wp2
  all_goals go_ret
  all_goals exact ⟨ret_bool (by rw [Bool.eq_iff_iff]; simp [letB]; try omega), rfl⟩

theorem c_impl_allSigns (s : ByteArray) (w : World) (hs : s.size ≤ maxLen) :
    Calls Tryz.prog 88 #[.string s, .func (.func 149) #[] #[]] w fun e w' => e = .returned (.bool (allL s.data.toList)) ∧ w' = w := by
  unfold maxLen at hs
  go_enter Tryz.func88, Tryz.ntmps88
  go_wp2
  go_loop [8] (fun i => ∃ k : Nat, k ≤ s.size ∧ i = .int .i64 k ∧ allL (s.data.toList.take k) = true) (fun i => s.size - (intOf i).toNat)
  case atStart => exact ⟨0, Nat.zero_le _, rfl, rfl⟩
  case round =>
    obtain ⟨k, hk, rfl, hp⟩ := hrel
    by_cases hlt : k < s.size
    · have HP : Hid (allL (s.data.toList.take k) = true) := hp
      clear hp
      have hb : (s[k].toNat : Int) ≤ 255 := by have := s[k].toNat_lt; omega
      cases hc : letB s[k].toNat
      · go_wp2_with (go_at_call 149; refine (c__impl_sign__letter _ _ (by omega) hb).mono ?_; rintro e w' ⟨rfl, rfl⟩)
        go_ret
        exact ⟨ret_bool (allL_no s k hlt hc).symm, rfl⟩
      · go_wp2_with (go_at_call 149; refine (c__impl_sign__letter _ _ (by omega) hb).mono ?_; rintro e w' ⟨rfl, rfl⟩)
        go_round
        case rel => exact ⟨k + 1, by omega, by go_num, by rw [take_snoc s k hlt, allL_snoc, HP.out, hc]; rfl⟩
        case measure => simp [intOf]; omega
    · go_wp2
      go_ret
      exact ⟨ret_bool (by rw [← take_full s k hlt]; exact hp.symm), rfl⟩

theorem c_impl_lettersOk (s : ByteArray) (w : World) (hs : s.size ≤ maxLen) :
    Calls Tryz.prog 137 #[.string s] w fun e w' => e = .returned (.bool (lettersL s.data.toList)) ∧ w' = w := by
  have hz := sz s
  have hm : s.size ≤ 9223372036854775807 := by unfold maxLen at hs; exact hs
  by_cases h1 : 1 ≤ s.size
  · by_cases h2 : s.size ≤ 10
    · have e : lettersL s.data.toList = allL s.data.toList := by
        rw [lettersL, decide_eq_true (show 1 ≤ s.data.toList.length by omega), decide_eq_true (show s.data.toList.length ≤ 10 by omega)]; simp
      rw [e]
      clear hz e
      go_enter Tryz.func137, Tryz.ntmps137
      go_wp2_with (go_at_call 88; refine (c_impl_allSigns _ _ hs).mono ?_; rintro e w' ⟨rfl, rfl⟩)
      go_ret
      exact ⟨rfl, rfl⟩
    · have e : lettersL s.data.toList = false := by
        rw [lettersL, decide_eq_false (show ¬ s.data.toList.length ≤ 10 by omega)]; simp
      rw [e]
      clear hz e
      go_enter Tryz.func137, Tryz.ntmps137
      go_wp2_with fail
      go_ret
      exact ⟨rfl, rfl⟩
  · have e : lettersL s.data.toList = false := by
      rw [lettersL, decide_eq_false (show ¬ 1 ≤ s.data.toList.length by omega)]; simp
    rw [e]
    clear hz e
    go_enter Tryz.func137, Tryz.ntmps137
    go_wp2_with fail
    go_ret
    exact ⟨rfl, rfl⟩

theorem c__impl_sign__same_yes (c : Int) (w : World) (h0 : c ≤ 58) (h1 : 58 ≤ c) :
    Calls Tryz.prog 136 #[.int .u8 58, .int .u8 c] w fun e w' => e = .returned (.bool true) ∧ w' = w := by
  have h : c = 58 := by omega
  subst h
  go_enter Tryz.func136, Tryz.ntmps136
  go_wp2
  go_ret
  exact ⟨rfl, rfl⟩

theorem c__impl_sign__same_no (c : Int) (w : World) (h : ¬ c = 58) :
    Calls Tryz.prog 136 #[.int .u8 58, .int .u8 c] w fun e w' => e = .returned (.bool false) ∧ w' = w := by
  have h' : ¬ 58 = c := fun e => h e.symm
  have hb : ((58 : Int) == c) = false := by simp [h']
  go_enter Tryz.func136, Tryz.ntmps136
  go_wp2
  go_ret
  exact ⟨rfl, rfl⟩

def colonI (l : List UInt8) : Int := match colonAt l with
  | none => -1
  | some a => a

theorem colonI_at (s : ByteArray) (k : Nat) (h : k < s.size) (hc : s[k].toNat = 58) (hn : ∀ c ∈ s.data.toList.take k, ¬ c.toNat = 58) : colonI s.data.toList = k := by
  have e : colonAt s.data.toList = some k := by
    unfold colonAt
    rw [List.findIdx?_eq_some_iff_getElem]
    have hl : k < s.data.toList.length := h
    refine ⟨hl, by show (s[k].toNat == 58) = true; rw [hc]; rfl, fun j hj => ?_⟩
    have : s.data.toList[j] ∈ s.data.toList.take k := by
      rw [List.mem_take_iff_getElem]
      exact ⟨j, by omega, rfl⟩
    simpa using hn _ this
  simp [colonI, e]

theorem colonI_no (l : List UInt8) (hn : ∀ c ∈ l, ¬ c.toNat = 58) : colonI l = -1 := by
  have e : colonAt l = none := by
    unfold colonAt
    rw [List.findIdx?_eq_none_iff]
    intro x hx
    simpa using hn x hx
  simp [colonI, e]

theorem c_impl_firstSign (s : ByteArray) (w : World) (hs : s.size ≤ maxLen) :
    Calls Tryz.prog 135 #[.string s, .func (.func 136) #[.int .u8 58] #[]] w fun e w' => e = .returned (.int .i64 (colonI s.data.toList)) ∧ w' = w := by
  unfold maxLen at hs
  go_enter Tryz.func135, Tryz.ntmps135
  go_wp2
  go_loop [8] (fun i => ∃ k : Nat, k ≤ s.size ∧ i = .int .i64 k ∧ Hid (∀ c ∈ s.data.toList.take k, ¬ c.toNat = 58)) (fun i => s.size - (intOf i).toNat)
  case atStart => exact ⟨0, Nat.zero_le _, rfl, by simp [Hid]⟩
  case round =>
    obtain ⟨k, hk, rfl, HP⟩ := hrel
    by_cases hlt : k < s.size
    · by_cases hc : (s[k].toNat : Int) = 58
      · have g0 : (s[k].toNat : Int) ≤ 58 := by omega
        have g1 : (58 : Int) ≤ s[k].toNat := by omega
        have HC : Hid (colonI s.data.toList = k) := colonI_at s k hlt (by omega) HP.out
        clear hc
        go_wp2_with (go_at_call 136; refine (c__impl_sign__same_yes _ _ g0 g1).mono ?_; rintro e w' ⟨rfl, rfl⟩)
        go_ret
        exact ⟨by rw [HC.out]; rfl, rfl⟩
      · have HN : Hid (∀ c ∈ s.data.toList.take (k + 1), ¬ c.toNat = 58) := by
          show ∀ c ∈ _, _
          intro c hm
          rw [take_snoc s k hlt, List.mem_append] at hm
          rcases hm with hm | hm
          · exact HP.out c hm
          · simp at hm; subst hm; omega
        go_wp2_with (go_at_call 136; refine (c__impl_sign__same_no _ _ hc).mono ?_; rintro e w' ⟨rfl, rfl⟩)
        go_round
        case rel => exact ⟨k + 1, by omega, by go_num, HN⟩
        case measure => simp [intOf]; omega
    · have HC : Hid (colonI s.data.toList = -1) := colonI_no _ (by rw [← take_full s k hlt]; exact HP.out)
      go_wp2
      go_ret
      exact ⟨by rw [HC.out]; rfl, rfl⟩

theorem ext_pre (s : ByteArray) (a : Nat) : s.extract 0 a = ⟨(s.data.toList.take a).toArray⟩ := by
  have := ByteArray.extract_mk s.data.toList 0 a
  simpa using this

theorem ext_loc (s : ByteArray) (a : Nat) : s.extract a s.size = ⟨(s.data.toList.drop a).toArray⟩ := by
  have h := ByteArray.extract_mk s.data.toList a s.size
  have e : (s.data.toList.drop a).take (s.size - a) = s.data.toList.drop a := List.take_of_length_le (by rw [List.length_drop, sz s]; exact Nat.le_refl _)
  rw [e] at h
  simpa using h

theorem colonI_lt (l : List UInt8) (a : Nat) (h : colonAt l = some a) : a < l.length := by
  unfold colonAt at h
  obtain ⟨ha, _, _⟩ := List.findIdx?_eq_some_iff_getElem.1 h
  exact ha


end Go.Proofs.YtkejmifkjgpdjaaGreat

namespace Go.Proofs.YtkejmifkjgpdjaaGreat
open Go.RowKit
set_option linter.unusedVariables false
set_option linter.unusedSimpArgs false

theorem c_spec_l1In (x : Int) (w : World) : Calls Tryz.prog 64 #[.int .i64 x, .int .i64 1, .int .i64 10] w fun e w' => e = .returned (.bool (decide (1 ≤ x) && decide (x ≤ 10))) ∧ w' = w := by
  go_enter Tryz.func64, Tryz.ntmps64
  go_wp2
  all_goals go_ret
  all_goals exact ⟨ret_bool (by rw [Bool.eq_iff_iff]; simp; try omega), rfl⟩

theorem lettersL_no {l : List UInt8} (h : allL l = false) : lettersL l = false := by simp [lettersL, h]

theorem lettersL_len (s : ByteArray) (h : allL s.data.toList = true) : lettersL s.data.toList = (decide (1 ≤ (s.size : Int)) && decide ((s.size : Int) ≤ 10)) := by
  have hz := sz s
  rw [lettersL, h, Bool.and_true, Bool.eq_iff_iff]
  simp
  omega

set_option maxHeartbeats 2000000 in
theorem c_spec_l1Letters (s : ByteArray) (w : World) (hs : s.size ≤ maxLen) :
    Calls Tryz.prog 103 #[.string s] w fun e w' => e = .returned (.bool (lettersL s.data.toList)) ∧ w' = w := by
  unfold maxLen at hs
  go_enter Tryz.func103, Tryz.ntmps103
  go_wp2
  go_loop [3] (fun i => ∃ k : Nat, k ≤ s.size ∧ i = .int .i64 k ∧ Hid (allL (s.data.toList.take k) = true)) (fun i => s.size - (intOf i).toNat)
  case atStart => exact ⟨0, Nat.zero_le _, rfl, rfl⟩
  case round =>
    obtain ⟨k, hk, rfl, HP⟩ := hrel
    by_cases hlt : k < s.size
    · have hb : (s[k].toNat : Int) ≤ 255 := by have := s[k].toNat_lt; omega
      have cases : ((97 : Int) ≤ s[k].toNat ∧ (s[k].toNat : Int) ≤ 122) ∨ ((65 : Int) ≤ s[k].toNat ∧ (s[k].toNat : Int) ≤ 90) ∨ (s[k].toNat : Int) < 65 ∨ ((90 : Int) < s[k].toNat ∧ (s[k].toNat : Int) < 97) ∨ (122 : Int) < s[k].toNat := by omega
      rcases cases with ⟨g0, g1⟩ | ⟨g0, g1⟩ | g0 | ⟨g0, g1⟩ | g0
      · have HN : Hid (allL (s.data.toList.take (k + 1)) = true) := by
          show allL _ = true
          rw [take_snoc s k hlt, allL_snoc, HP.out]
          simp [letB]; omega
        go_wp2
        go_round
        case rel => exact ⟨k + 1, by omega, by go_num, HN⟩
        case measure => simp [intOf]; omega
      · have HN : Hid (allL (s.data.toList.take (k + 1)) = true) := by
          show allL _ = true
          rw [take_snoc s k hlt, allL_snoc, HP.out]
          simp [letB]; omega
        go_wp2
        go_round
        case rel => exact ⟨k + 1, by omega, by go_num, HN⟩
        case measure => simp [intOf]; omega
      · have HN : Hid (lettersL s.data.toList = false) := lettersL_no (allL_no s k hlt (by simp [letB]; omega))
        go_wp2
        go_ret
        exact ⟨by rw [HN.out]; rfl, rfl⟩
      · have HN : Hid (lettersL s.data.toList = false) := lettersL_no (allL_no s k hlt (by simp [letB]; omega))
        go_wp2
        go_ret
        exact ⟨by rw [HN.out]; rfl, rfl⟩
      · have HN : Hid (lettersL s.data.toList = false) := lettersL_no (allL_no s k hlt (by simp [letB]; omega))
        go_wp2
        go_ret
        exact ⟨by rw [HN.out]; rfl, rfl⟩
    · have HN : Hid (lettersL s.data.toList = (decide (1 ≤ (s.size : Int)) && decide ((s.size : Int) ≤ 10))) := lettersL_len s (by rw [← take_full s k hlt]; exact HP.out)
      go_wp2_with (go_at_call 64; refine (c_spec_l1In _ _).mono ?_; rintro e w' ⟨rfl, rfl⟩)
      go_ret
      exact ⟨by rw [HN.out]; rfl, rfl⟩

/-- A piece as a value. -/
def strV (p : List UInt8) : Value := .string ⟨p.toArray⟩

def cut (s : ByteArray) (f k : Nat) : List UInt8 := (s.data.toList.drop f).take (k - f)

theorem ext_cut (s : ByteArray) (f k : Nat) : Value.string (s.extract f k) = strV (cut s f k) := by
  have := ByteArray.extract_mk s.data.toList f k
  unfold strV cut
  rw [← this]

/-- What the splitting loop holds. -/
def Splits (s : ByteArray) (k f : Nat) (o : List (List UInt8)) : Prop :=
  o.length ≤ k ∧ f ≤ k ∧ ((k ≤ s.size ∧ o ++ splitA (cut s f k) (s.data.toList.drop k) = splitL s.data.toList) ∨ (k = s.size + 1 ∧ o = splitL s.data.toList))

theorem cut_self (s : ByteArray) (k : Nat) : cut s k k = [] := by simp [cut]

theorem cut_snoc (s : ByteArray) (f k : Nat) (hf : f ≤ k) (hk : k < s.size) : cut s f (k + 1) = cut s f k ++ [s[k]] := by
  unfold cut
  have e : k + 1 - f = (k - f) + 1 := by omega
  have hl : k - f < (s.data.toList.drop f).length := by rw [List.length_drop, ← sz s]; omega
  rw [e, List.take_succ_eq_append_getElem hl]
  congr 2
  rw [List.getElem_drop]
  have : f + (k - f) = k := by omega
  simp only [this]
  rfl

theorem splits_start (s : ByteArray) : Splits s 0 0 [] := by
  refine ⟨Nat.le_refl _, Nat.le_refl _, .inl ⟨Nat.zero_le _, ?_⟩⟩
  rw [cut_self]; rfl

theorem drop_cons (s : ByteArray) (k : Nat) (hk : k < s.size) : s.data.toList.drop k = s[k] :: s.data.toList.drop (k + 1) :=
  List.drop_eq_getElem_cons (by rw [← sz s]; exact hk)

theorem splits_other {s : ByteArray} {k f : Nat} {o : List (List UInt8)} (h : Splits s k f o) (hk : k < s.size) (hc : ¬ s[k].toNat = 58) : Splits s (k + 1) f o := by
  obtain ⟨h1, h2, h3⟩ := h
  refine ⟨by omega, by omega, .inl ⟨by omega, ?_⟩⟩
  rcases h3 with ⟨_, h3⟩ | ⟨h3, _⟩
  · rw [drop_cons s k hk, splitA, if_neg hc, ← cut_snoc s f k h2 hk] at h3
    exact h3
  · omega

theorem splits_colon {s : ByteArray} {k f : Nat} {o : List (List UInt8)} (h : Splits s k f o) (hk : k < s.size) (hc : s[k].toNat = 58) : Splits s (k + 1) (k + 1) (o ++ [cut s f k]) := by
  obtain ⟨h1, h2, h3⟩ := h
  refine ⟨by simp; omega, by omega, .inl ⟨by omega, ?_⟩⟩
  rcases h3 with ⟨_, h3⟩ | ⟨h3, _⟩
  · rw [drop_cons s k hk, splitA, if_pos hc] at h3
    rw [cut_self, List.append_assoc]
    exact h3
  · omega

theorem splits_last {s : ByteArray} {k f : Nat} {o : List (List UInt8)} (h : Splits s k f o) (hk : k = s.size) : Splits s (k + 1) (k + 1) (o ++ [cut s f k]) := by
  obtain ⟨h1, h2, h3⟩ := h
  refine ⟨by simp; omega, by omega, .inr ⟨by omega, ?_⟩⟩
  rcases h3 with ⟨_, h3⟩ | ⟨h3, _⟩
  · rw [List.drop_of_length_le (by rw [← sz s]; omega), splitA] at h3
    exact h3
  · omega

theorem splits_end {s : ByteArray} {k f : Nat} {o : List (List UInt8)} (h : Splits s k f o) (hk : ¬ k ≤ s.size) : o = splitL s.data.toList := by
  obtain ⟨h1, h2, h3⟩ := h
  rcases h3 with ⟨h3, _⟩ | ⟨_, h3⟩
  · omega
  · exact h3

theorem info9 : (Tryz.prog.info? 9).map (fun i => (i.zero, i.size, i.bytes)) = some (some (.string ByteArray.empty), 1, 16) := by kernel_rfl

theorem one_cell (t : TypeId) (w : World) (v : Value) : ∀ j u, [v][j]? = some u → (w.alloc (.cells #[v] t)).cell? ((⟨w.heap.size, 0, none⟩ : Addr).add j) = some u := by
  intro j u hj
  match j, hj with
  | 0, hj => simp at hj; subst hj; simp [Addr.add]

theorem one_str (s : ByteArray) : ∀ u ∈ [Value.string s], u.oneCell' = true := by
  intro u hu; simp at hu; subst hu; rfl

theorem own_more {w1 : World} {B : Nat} {v : Value} {o : List (List UInt8)} {s : ByteArray} {f k : Nat} (h : w1.ownsRow B 9 1 v (o.length + 1) (o.map strV ++ [.string (s.extract f k)])) :
    w1.ownsRow B 9 1 v (o ++ [cut s f k]).length ((o ++ [cut s f k]).map strV) := by
  rw [List.length_append, List.map_append, ← (show [Value.string (s.extract f k)] = [cut s f k].map strV by rw [ext_cut]; rfl)]
  exact h

set_option maxRecDepth 8000 in
set_option maxHeartbeats 4000000 in
theorem c_spec_l1Split (s : ByteArray) (w : World) (h0 : s.size ≤ 1048576) :
    Calls Tryz.prog 69 #[.string s, .int .u8 58] w fun e w' => ∃ v, e = .returned v ∧ w'.ownsRow w.heap.size 9 1 v (splitL s.data.toList).length ((splitL s.data.toList).map strV) ∧ Below w.heap.size w w' := by
  obtain ⟨i0, hi, hz0, hz1, hz2⟩ := info_parts info9
  go_enter Tryz.func69, Tryz.ntmps69
  go_wp2
  go_loopw [5, 6, 7] (fun v fr i wr => ∃ (k f : Nat) (o : List (List UInt8)), i = .int .i64 k ∧ fr = .int .i64 f ∧ k ≤ s.size + 1 ∧ Splits s k f o ∧ wr.ownsRow w.heap.size 9 1 v o.length (o.map strV) ∧ Below w.heap.size w wr) (fun _ _ i _ => s.size + 1 - (intOf i).toNat)
  case atStart => exact ⟨0, 0, [], rfl, rfl, by omega, splits_start s, World.ownsRow_made _ _ _ (Nat.le_refl _) (by decide) rfl, (Below.refl _ _).alloc (Nat.le_refl _) _⟩
  case round =>
    obtain ⟨k, f, o, rfl, rfl, hk, hS, hown, hB⟩ := hrel
    have hsz := hB.size
    have hf : f ≤ k := hS.2.1
    have ho : o.length ≤ k := hS.1
    have HS : Hid (Splits s k f o) := hS
    clear hS
    by_cases hle : k ≤ s.size
    · by_cases hlt : k < s.size
      · by_cases hc : (s[k].toNat : Int) = 58
        · have g0 : (s[k].toNat : Int) ≤ 58 := by omega
          have g1 : (58 : Int) ≤ s[k].toNat := by omega
          have HN : Hid (Splits s (k + 1) (k + 1) (o ++ [cut s f k])) := splits_colon HS.out hlt (by omega)
          have hkb : ((k : Int) == (s.size : Int)) = false := by simp; omega
          have hcb : ((s[k].toNat : Int) == 58) = true := by simp; omega
          clear hc
          go_wp2_with (at_builtin; refine wpList_append_own _ rfl _ _ 24 rfl w.heap.size 9 i0 (.string ByteArray.empty) 1 16 Tryz.underlying24 hi hz0 hz1 hz2 rfl (by decide) _ _ _ rfl (hown.alloc _) ⟨wr.heap.size, 0, none⟩ 1 1 [.string (s.extract f k)] rfl rfl (one_cell _ _ _) (one_str _) (by unfold maxLen; omega) (by omega) (by simp; omega) ?_)
          intro v' w1 hown' hgrow _
          have R := own_more hown'
          have hB1 := (hB.alloc hsz _).grown hgrow (by simp; omega) (fun k hk => (hown.lt k hk).1)
          clear hown' hgrow hown
          go_wp2
          go_roundw
          case rel => exact ⟨k + 1, k + 1, o ++ [cut s f k], by go_num, by go_num, by omega, HN.out, R, hB1⟩
          case measure => simp [intOf]; omega
        · have HN : Hid (Splits s (k + 1) f o) := splits_other HS.out hlt (by omega)
          have hkb : ((k : Int) == (s.size : Int)) = false := by simp; omega
          have hcb : ((s[k].toNat : Int) == 58) = false := by simp; omega
          go_wp2
          go_roundw
          case rel => exact ⟨k + 1, f, o, by go_num, by go_num, by omega, HN.out, hown, hB⟩
          case measure => simp [intOf]; omega
      · have hke : k = s.size := by omega
        have HN : Hid (Splits s (k + 1) (k + 1) (o ++ [cut s f k])) := splits_last HS.out hke
        have hkb : ((k : Int) == (s.size : Int)) = true := by simp; omega
        clear hke
        go_wp2_with (at_builtin; refine wpList_append_own _ rfl _ _ 24 rfl w.heap.size 9 i0 (.string ByteArray.empty) 1 16 Tryz.underlying24 hi hz0 hz1 hz2 rfl (by decide) _ _ _ rfl (hown.alloc _) ⟨wr.heap.size, 0, none⟩ 1 1 [.string (s.extract f k)] rfl rfl (one_cell _ _ _) (one_str _) (by unfold maxLen; omega) (by omega) (by simp; omega) ?_)
        intro v' w1 hown' hgrow _
        have R := own_more hown'
        have hB1 := (hB.alloc hsz _).grown hgrow (by simp; omega) (fun k hk => (hown.lt k hk).1)
        clear hown' hgrow hown
        go_wp2
        go_roundw
        case rel => exact ⟨k + 1, k + 1, o ++ [cut s f k], by go_num, by go_num, by omega, HN.out, R, hB1⟩
        case measure => simp [intOf]; omega
    · have HO : Hid (o = splitL s.data.toList) := splits_end HS.out hle
      go_wp2
      go_ret
      exact ⟨_, rfl, by rw [← HO.out]; exact hown, hB⟩

end Go.Proofs.YtkejmifkjgpdjaaGreat
