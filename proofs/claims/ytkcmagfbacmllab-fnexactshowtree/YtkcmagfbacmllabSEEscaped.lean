/- Contracts of spec.Escaped and impl.Escaped: both write what escapedL says. -/
import Derived.Test.YtkcmagfbacmllabRows
import Derived.Test.YtkcmagfbacmllabSEMath
import Derived.Test.YtkcmagfbacmllabKit
import Derived.Test.YtkcmagfbacmllabSEPlain
import Derived.Test.YtkcmagfbacmllabSESigns
import Derived.Test.YtkcmagfbacmllabBuilder
import Derived.WalkKit
namespace Go.Proofs.Ytkcmagfbacmllab
open Go.RowKit

/-- One round of the builder's loop. -/
theorem esc_round {q : Bool} {s : ByteArray} {k : Nat} {w1 : World} {B : Nat} (hlt : k < s.size)
    (h : Lib.IsBuilder 49 5 B B (Lib.byteCells (escL q (s.data.toList.take k)) ++ Lib.strCells ⟨(escB q s[k]).toArray⟩) w1) :
    Lib.IsBuilder 49 5 B B (Lib.byteCells (escL q (s.data.toList.take (k + 1)))) w1 := by
  rw [take_snocE s k hlt, escL_snoc, byteCells_app, ← strCells_eq (escB q s[k])]
  exact h

theorem len_esc (q : Bool) (s : ByteArray) (k : Nat) (hk : k ≤ s.size) : (Lib.byteCells (escL q (s.data.toList.take k))).length ≤ 6 * s.size := by
  rw [Lib.byteCells_length]
  have h := escL_le q (s.data.toList.take k)
  have h2 : (s.data.toList.take k).length ≤ k := List.length_take_le _ _
  omega

theorem size_esc (q : Bool) (c : UInt8) : (⟨(escB q c).toArray⟩ : ByteArray).size ≤ 6 := by
  have := escB_le q c
  simpa [ByteArray.size] using this

set_option maxRecDepth 100000 in
set_option maxHeartbeats 1000000 in
theorem c_impl_Escaped_no (s : ByteArray) (q : Bool) (w : World) (h0 : s.size ≤ 1048576) (hp : plainL s.data.toList = false) :
    Calls Try.prog 59 #[.string s, .bool q] w fun e w' => e = .returned (.string ⟨(escapedL q s.data.toList).toArray⟩) ∧ Below w.heap.size w w' := by
  have e : escapedL q s.data.toList = [] := by simp [escapedL, hp]
  rw [e]
  go_enter Try.func59, Try.ntmps59
  go_wp2_with (go_at_call 83; refine (c_impl_PlainOk _ _ (by unfold maxLen; omega)).mono ?_; rintro e w' ⟨rfl, rfl⟩)
  go_ret
  exact ⟨rfl, Below.refl _ _⟩

set_option maxRecDepth 100000 in
set_option maxHeartbeats 1000000 in
theorem c_impl_Escaped_text (s : ByteArray) (w : World) (h0 : s.size ≤ 1048576) (hp : plainL s.data.toList = true) :
    Calls Try.prog 59 #[.string s, .bool false] w fun e w' => e = .returned (.string ⟨(escapedL false s.data.toList).toArray⟩) ∧ Below w.heap.size w w' := by
  have e : escapedL false s.data.toList = escL false s.data.toList := by simp [escapedL, hp]
  rw [e]; clear e
  go_enter Try.func59, Try.ntmps59
  go_wp2_with (go_at_call 83; refine (c_impl_PlainOk _ _ (by unfold maxLen; omega)).mono ?_; rintro e w' ⟨rfl, rfl⟩)
  go_loopw [14] (fun i wr => ∃ k : Nat, k ≤ s.size ∧ i = .int .i64 k ∧ Lib.IsBuilder 49 5 w'.heap.size w'.heap.size (Lib.byteCells (escL false (s.data.toList.take k))) wr ∧ Below w'.heap.size w' wr) (fun i _ => s.size - (intOf i).toNat)
  case atStart => exact ⟨0, Nat.zero_le _, rfl, Lib.fresh_isBuilder 49 5 _, (Below.refl _ _).alloc (Nat.le_refl _) _⟩
  case round =>
    obtain ⟨k, hk, rfl, hI, hB⟩ := hrel
    by_cases hlt : k < s.size
    · have hsz := hB.size
      have hl := len_esc false s k hk
      have h6 := size_esc false s[k]
      have HI : Hid (Lib.IsBuilder 49 5 w'.heap.size w'.heap.size (Lib.byteCells (escL false (s.data.toList.take k))) wr) := hI
      clear hI
      go_wp2_with (first
        | (go_at_call 84; refine (c__impl_sign__inText s[k] _).mono ?_; rintro e w1 ⟨rfl, hb1⟩)
        | (go_at_call 27; refine (writeString _ _ _ _ _ (isBuilder_below HI.out hb1) (by omega) (by have := hb1.size; omega)).mono ?_; rintro e w2 ⟨rfl, hI2, hb2, _⟩))
      go_roundw
      case rel => exact ⟨k + 1, by omega, by go_num, esc_round hlt hI2, hB.trans ((hb1.mono hsz).trans hb2)⟩
      case measure => simp [intOf]; omega
    · have hk' : s.data.toList.take k = s.data.toList := plainL_full s k hlt
      rw [hk'] at hI
      have hsz := hB.size
      go_wp2_with (go_at_call 29; refine (Try.Builder_String_any _ _ _ _ hI hsz).mono ?_; rintro e w2 ⟨rfl, hb2⟩)
      go_ret
      exact ⟨rfl, hB.trans hb2⟩
set_option maxRecDepth 100000 in
set_option maxHeartbeats 1000000 in
theorem c_impl_Escaped_quot (s : ByteArray) (w : World) (h0 : s.size ≤ 1048576) (hp : plainL s.data.toList = true) :
    Calls Try.prog 59 #[.string s, .bool true] w fun e w' => e = .returned (.string ⟨(escapedL true s.data.toList).toArray⟩) ∧ Below w.heap.size w w' := by
  have e : escapedL true s.data.toList = escL true s.data.toList := by simp [escapedL, hp]
  rw [e]; clear e
  go_enter Try.func59, Try.ntmps59
  go_wp2_with (go_at_call 83; refine (c_impl_PlainOk _ _ (by unfold maxLen; omega)).mono ?_; rintro e w' ⟨rfl, rfl⟩)
  go_loopw [14] (fun i wr => ∃ k : Nat, k ≤ s.size ∧ i = .int .i64 k ∧ Lib.IsBuilder 49 5 w'.heap.size w'.heap.size (Lib.byteCells (escL true (s.data.toList.take k))) wr ∧ Below w'.heap.size w' wr) (fun i _ => s.size - (intOf i).toNat)
  case atStart => exact ⟨0, Nat.zero_le _, rfl, Lib.fresh_isBuilder 49 5 _, (Below.refl _ _).alloc (Nat.le_refl _) _⟩
  case round =>
    obtain ⟨k, hk, rfl, hI, hB⟩ := hrel
    by_cases hlt : k < s.size
    · have hsz := hB.size
      have hl := len_esc true s k hk
      have h6 := size_esc true s[k]
      have HI : Hid (Lib.IsBuilder 49 5 w'.heap.size w'.heap.size (Lib.byteCells (escL true (s.data.toList.take k))) wr) := hI
      clear hI
      go_wp2_with (first
        | (go_at_call 85; refine (c__impl_sign__inQuotes s[k] _).mono ?_; rintro e w1 ⟨rfl, hb1⟩)
        | (go_at_call 27; refine (writeString _ _ _ _ _ (isBuilder_below HI.out hb1) (by omega) (by have := hb1.size; omega)).mono ?_; rintro e w2 ⟨rfl, hI2, hb2, _⟩))
      go_roundw
      case rel => exact ⟨k + 1, by omega, by go_num, esc_round hlt hI2, hB.trans ((hb1.mono hsz).trans hb2)⟩
      case measure => simp [intOf]; omega
    · have hk' : s.data.toList.take k = s.data.toList := plainL_full s k hlt
      rw [hk'] at hI
      have hsz := hB.size
      go_wp2_with (go_at_call 29; refine (Try.Builder_String_any _ _ _ _ hI hsz).mono ?_; rintro e w2 ⟨rfl, hb2⟩)
      go_ret
      exact ⟨rfl, hB.trans hb2⟩

theorem own_step {q : Bool} {s : ByteArray} {k : Nat} {w1 : World} {B n : Nat} {v : Value} {xs : List Value} {l : List UInt8} (hlt : k < s.size) (hl : escB q s[k] = l) (hn : n = l.length) (hx : xs = Lib.byteCells l)
    (h : w1.ownsRow B 5 1 v ((escL q (s.data.toList.take k)).length + n) (Lib.byteCells (escL q (s.data.toList.take k)) ++ xs)) :
    w1.ownsRow B 5 1 v (escL q (s.data.toList.take (k + 1))).length (Lib.byteCells (escL q (s.data.toList.take (k + 1)))) := by
  rw [take_snocE s k hlt, escL_snoc, byteCells_app, List.length_append, hl, ← hn, ← hx]
  exact h

theorem len_esc' (q : Bool) (s : ByteArray) (k : Nat) (hk : k ≤ s.size) : (escL q (s.data.toList.take k)).length ≤ 6 * s.size := by
  have h := escL_le q (s.data.toList.take k)
  have h2 : (s.data.toList.take k).length ≤ k := List.length_take_le _ _
  omega

theorem info5E : (Try.prog.info? 5).map (fun i => (i.zero, i.size, i.bytes)) = some (some (.int .u8 0), 1, 1) := by kernel_rfl

set_option maxRecDepth 100000 in
set_option maxHeartbeats 1000000 in
theorem c_spec_Escaped_no (s : ByteArray) (q : Bool) (w : World) (h0 : s.size ≤ 1048576) (hp : plainL s.data.toList = false) :
    Calls Try.prog 66 #[.string s, .bool q] w fun e w' => e = .returned (.string ⟨(escapedL q s.data.toList).toArray⟩) ∧ Below w.heap.size w w' := by
  have e : escapedL q s.data.toList = [] := by simp [escapedL, hp]
  rw [e]
  go_enter Try.func66, Try.ntmps66
  go_wp2_with (go_at_call 64; refine (c_spec_PlainOk _ _ (by unfold maxLen; omega)).mono ?_; rintro e w' ⟨rfl, rfl⟩)
  go_ret
  exact ⟨rfl, Below.refl _ _⟩

theorem one_cellE (w : World) (v : Value) : ∀ j u, [v][j]? = some u → (w.alloc (.cells #[v] 5)).cell? ((⟨w.heap.size, 0, none⟩ : Addr).add j) = some u := by
  intro j u hj
  match j, hj with
  | 0, hj => simp at hj; subst hj; simp [Addr.add]

theorem one_one (n : Int) : ∀ u ∈ [Value.int .u8 n], u.oneCell' = true := by
  intro u hu; simp at hu; subst hu; rfl

set_option maxRecDepth 100000 in
set_option maxHeartbeats 4000000 in
theorem c_spec_Escaped_text (s : ByteArray) (w : World) (h0 : s.size ≤ 1048576) (hp : plainL s.data.toList = true) :
    Calls Try.prog 66 #[.string s, .bool false] w fun e w' => e = .returned (.string ⟨(escapedL false s.data.toList).toArray⟩) ∧ Below w.heap.size w w' := by
  have e : escapedL false s.data.toList = escL false s.data.toList := by simp [escapedL, hp]
  rw [e]; clear e
  obtain ⟨i0, hi, hz0, hz1, hz2⟩ := info_parts info5E
  go_enter Try.func66, Try.ntmps66
  go_wp2_with (go_at_call 64; refine (c_spec_PlainOk _ _ (by unfold maxLen; omega)).mono ?_; rintro e w' ⟨rfl, rfl⟩)
  clear hp
  go_loopw [5, 6] (fun v i wr => ∃ k : Nat, k ≤ s.size ∧ i = .int .i64 k ∧ wr.ownsRow w'.heap.size 5 1 v (escL false (s.data.toList.take k)).length (Lib.byteCells (escL false (s.data.toList.take k))) ∧ Below w'.heap.size w' wr) (fun _ i _ => s.size - (intOf i).toNat)
  case atStart => exact ⟨0, Nat.zero_le _, rfl, World.ownsRow_made _ _ _ (Nat.le_refl _) (by decide) rfl, (Below.refl _ _).alloc (Nat.le_refl _) _⟩
  case round =>
    obtain ⟨k, hk, rfl, hown, hB⟩ := hrel
    have hsz := hB.size
    by_cases hlt : k < s.size
    · have hl := len_esc' false s k hk
      have cases : (s[k].toNat : Int) = 38 ∨ (s[k].toNat : Int) = 60 ∨ (s[k].toNat : Int) = 62 ∨ (s[k].toNat : Int) = 34 ∨ (¬ (s[k].toNat : Int) = 38 ∧ ¬ (s[k].toNat : Int) = 60 ∧ ¬ (s[k].toNat : Int) = 62 ∧ ¬ (s[k].toNat : Int) = 34) := by omega
      rcases cases with h | h | h | h | h
      · have g0 : (s[k].toNat : Int) ≤ 38 := by omega
        have g1 : (38 : Int) ≤ s[k].toNat := by omega
        have he : escB false s[k] = [38, 97, 109, 112, 59] := by unfold escB; simp [show s[k].toNat = 38 by omega]
        have HE : Hid (escB false s[k] = [38, 97, 109, 112, 59]) := he
        clear he h
        go_wp2_with (at_builtin; refine Lib.wpList_append_own_string _ rfl _ _ 47 9 rfl w'.heap.size 5 i0 Try.underlying47 Try.underlying9 hi hz0 hz1 hz2 _ _ _ rfl hown ⟨#[38, 97, 109, 112, 59]⟩ rfl (show _ + 5 ≤ _ by unfold maxLen; omega) (show _ + 5 ≤ _ by omega) hsz ?_)
        intro v' w1 hown' hgrow _
        have R := own_step (q := false) hlt HE.out rfl rfl hown'
        have hB1 := hB.grown hgrow hsz (fun k hk => (hown.lt k hk).1)
        clear hown' hgrow hown
        go_wp2
        go_roundw
        case rel => exact ⟨k + 1, by omega, by go_num, R, hB1⟩
        case measure => simp [intOf]; omega
      · have g0 : (s[k].toNat : Int) ≤ 60 := by omega
        have g1 : (60 : Int) ≤ s[k].toNat := by omega
        have he : escB false s[k] = [38, 108, 116, 59] := by unfold escB; simp [show s[k].toNat = 60 by omega]
        have HE : Hid (escB false s[k] = [38, 108, 116, 59]) := he
        clear he h
        go_wp2_with (at_builtin; refine Lib.wpList_append_own_string _ rfl _ _ 47 9 rfl w'.heap.size 5 i0 Try.underlying47 Try.underlying9 hi hz0 hz1 hz2 _ _ _ rfl hown ⟨#[38, 108, 116, 59]⟩ rfl (show _ + 4 ≤ _ by unfold maxLen; omega) (show _ + 4 ≤ _ by omega) hsz ?_)
        intro v' w1 hown' hgrow _
        have R := own_step (q := false) hlt HE.out rfl rfl hown'
        have hB1 := hB.grown hgrow hsz (fun k hk => (hown.lt k hk).1)
        clear hown' hgrow hown
        go_wp2
        go_roundw
        case rel => exact ⟨k + 1, by omega, by go_num, R, hB1⟩
        case measure => simp [intOf]; omega
      · have g0 : (s[k].toNat : Int) ≤ 62 := by omega
        have g1 : (62 : Int) ≤ s[k].toNat := by omega
        have he : escB false s[k] = [38, 103, 116, 59] := by unfold escB; simp [show s[k].toNat = 62 by omega]
        have HE : Hid (escB false s[k] = [38, 103, 116, 59]) := he
        clear he h
        go_wp2_with (at_builtin; refine Lib.wpList_append_own_string _ rfl _ _ 47 9 rfl w'.heap.size 5 i0 Try.underlying47 Try.underlying9 hi hz0 hz1 hz2 _ _ _ rfl hown ⟨#[38, 103, 116, 59]⟩ rfl (show _ + 4 ≤ _ by unfold maxLen; omega) (show _ + 4 ≤ _ by omega) hsz ?_)
        intro v' w1 hown' hgrow _
        have R := own_step (q := false) hlt HE.out rfl rfl hown'
        have hB1 := hB.grown hgrow hsz (fun k hk => (hown.lt k hk).1)
        clear hown' hgrow hown
        go_wp2
        go_roundw
        case rel => exact ⟨k + 1, by omega, by go_num, R, hB1⟩
        case measure => simp [intOf]; omega
      · have g0 : (s[k].toNat : Int) ≤ 34 := by omega
        have g1 : (34 : Int) ≤ s[k].toNat := by omega
        have he : escB false s[k] = [s[k]] := by unfold escB; simp [show s[k].toNat = 34 by omega]
        have HN : Hid ((s[k].toNat : Int) = 34) := h
        have HE : Hid (escB false s[k] = [s[k]]) := he
        clear he h
        go_wp2_with (at_builtin; refine wpList_append_own _ rfl _ _ 47 rfl w'.heap.size 5 i0 (.int .u8 0) 1 1 Try.underlying47 hi hz0 hz1 hz2 rfl (by decide) _ _ _ rfl (hown.alloc _) ⟨wr.heap.size, 0, none⟩ 1 1 [.int .u8 34] rfl rfl (one_cellE _ _) (one_one _) (by unfold maxLen; omega) (by omega) (by simp; omega) ?_)
        intro v' w1 hown' hgrow _
        have R := own_step (q := false) hlt HE.out rfl (by simp [Lib.byteCells, HN.out]) hown'
        have hB1 := (hB.alloc hsz _).grown hgrow (by simp; omega) (fun k hk => (hown.lt k hk).1)
        clear hown' hgrow hown
        go_wp2
        go_roundw
        case rel => exact ⟨k + 1, by omega, by go_num, R, hB1⟩
        case measure => simp [intOf]; omega
      · obtain ⟨x0, x1, x2, x3⟩ := h
        have he : escB false s[k] = [s[k]] := by unfold escB; simp [show ¬ s[k].toNat = 38 by omega, show ¬ s[k].toNat = 60 by omega, show ¬ s[k].toNat = 62 by omega, show ¬ s[k].toNat = 34 by omega]
        have HE : Hid (escB false s[k] = [s[k]]) := he
        clear he
        go_wp2_with (at_builtin; refine wpList_append_own _ rfl _ _ 47 rfl w'.heap.size 5 i0 (.int .u8 0) 1 1 Try.underlying47 hi hz0 hz1 hz2 rfl (by decide) _ _ _ rfl (hown.alloc _) ⟨wr.heap.size, 0, none⟩ 1 1 [.int .u8 s[k].toNat] rfl rfl (one_cellE _ _) (one_one _) (by unfold maxLen; omega) (by omega) (by simp; omega) ?_)
        intro v' w1 hown' hgrow _
        have R := own_step (q := false) hlt HE.out rfl rfl hown'
        have hB1 := (hB.alloc hsz _).grown hgrow (by simp; omega) (fun k hk => (hown.lt k hk).1)
        clear hown' hgrow hown
        go_wp2
        go_roundw
        case rel => exact ⟨k + 1, by omega, by go_num, R, hB1⟩
        case measure => simp [intOf]; omega
    · have hk' : s.data.toList.take k = s.data.toList := plainL_full s k hlt
      rw [hk'] at hown
      have hr := run_str_own (P := Try.prog) (src := 47) (dst := 9) Try.underlying47 Try.underlying5 Try.underlying9 hown
      clear hown hk'
      go_wp2
      go_ret
      exact ⟨rfl, hB⟩

set_option maxRecDepth 100000 in
set_option maxHeartbeats 4000000 in
theorem c_spec_Escaped_quot (s : ByteArray) (w : World) (h0 : s.size ≤ 1048576) (hp : plainL s.data.toList = true) :
    Calls Try.prog 66 #[.string s, .bool true] w fun e w' => e = .returned (.string ⟨(escapedL true s.data.toList).toArray⟩) ∧ Below w.heap.size w w' := by
  have e : escapedL true s.data.toList = escL true s.data.toList := by simp [escapedL, hp]
  rw [e]; clear e
  obtain ⟨i0, hi, hz0, hz1, hz2⟩ := info_parts info5E
  go_enter Try.func66, Try.ntmps66
  go_wp2_with (go_at_call 64; refine (c_spec_PlainOk _ _ (by unfold maxLen; omega)).mono ?_; rintro e w' ⟨rfl, rfl⟩)
  clear hp
  go_loopw [5, 6] (fun v i wr => ∃ k : Nat, k ≤ s.size ∧ i = .int .i64 k ∧ wr.ownsRow w'.heap.size 5 1 v (escL true (s.data.toList.take k)).length (Lib.byteCells (escL true (s.data.toList.take k))) ∧ Below w'.heap.size w' wr) (fun _ i _ => s.size - (intOf i).toNat)
  case atStart => exact ⟨0, Nat.zero_le _, rfl, World.ownsRow_made _ _ _ (Nat.le_refl _) (by decide) rfl, (Below.refl _ _).alloc (Nat.le_refl _) _⟩
  case round =>
    obtain ⟨k, hk, rfl, hown, hB⟩ := hrel
    have hsz := hB.size
    by_cases hlt : k < s.size
    · have hl := len_esc' true s k hk
      have cases : (s[k].toNat : Int) = 38 ∨ (s[k].toNat : Int) = 60 ∨ (s[k].toNat : Int) = 62 ∨ (s[k].toNat : Int) = 34 ∨ (¬ (s[k].toNat : Int) = 38 ∧ ¬ (s[k].toNat : Int) = 60 ∧ ¬ (s[k].toNat : Int) = 62 ∧ ¬ (s[k].toNat : Int) = 34) := by omega
      rcases cases with h | h | h | h | h
      · have g0 : (s[k].toNat : Int) ≤ 38 := by omega
        have g1 : (38 : Int) ≤ s[k].toNat := by omega
        have he : escB true s[k] = [38, 97, 109, 112, 59] := by unfold escB; simp [show s[k].toNat = 38 by omega]
        have HE : Hid (escB true s[k] = [38, 97, 109, 112, 59]) := he
        clear he h
        go_wp2_with (at_builtin; refine Lib.wpList_append_own_string _ rfl _ _ 47 9 rfl w'.heap.size 5 i0 Try.underlying47 Try.underlying9 hi hz0 hz1 hz2 _ _ _ rfl hown ⟨#[38, 97, 109, 112, 59]⟩ rfl (show _ + 5 ≤ _ by unfold maxLen; omega) (show _ + 5 ≤ _ by omega) hsz ?_)
        intro v' w1 hown' hgrow _
        have R := own_step (q := true) hlt HE.out rfl rfl hown'
        have hB1 := hB.grown hgrow hsz (fun k hk => (hown.lt k hk).1)
        clear hown' hgrow hown
        go_wp2
        go_roundw
        case rel => exact ⟨k + 1, by omega, by go_num, R, hB1⟩
        case measure => simp [intOf]; omega
      · have g0 : (s[k].toNat : Int) ≤ 60 := by omega
        have g1 : (60 : Int) ≤ s[k].toNat := by omega
        have he : escB true s[k] = [38, 108, 116, 59] := by unfold escB; simp [show s[k].toNat = 60 by omega]
        have HE : Hid (escB true s[k] = [38, 108, 116, 59]) := he
        clear he h
        go_wp2_with (at_builtin; refine Lib.wpList_append_own_string _ rfl _ _ 47 9 rfl w'.heap.size 5 i0 Try.underlying47 Try.underlying9 hi hz0 hz1 hz2 _ _ _ rfl hown ⟨#[38, 108, 116, 59]⟩ rfl (show _ + 4 ≤ _ by unfold maxLen; omega) (show _ + 4 ≤ _ by omega) hsz ?_)
        intro v' w1 hown' hgrow _
        have R := own_step (q := true) hlt HE.out rfl rfl hown'
        have hB1 := hB.grown hgrow hsz (fun k hk => (hown.lt k hk).1)
        clear hown' hgrow hown
        go_wp2
        go_roundw
        case rel => exact ⟨k + 1, by omega, by go_num, R, hB1⟩
        case measure => simp [intOf]; omega
      · have g0 : (s[k].toNat : Int) ≤ 62 := by omega
        have g1 : (62 : Int) ≤ s[k].toNat := by omega
        have he : escB true s[k] = [s[k]] := by unfold escB; simp [show s[k].toNat = 62 by omega]
        have HN : Hid ((s[k].toNat : Int) = 62) := h
        have HE : Hid (escB true s[k] = [s[k]]) := he
        clear he h
        go_wp2_with (at_builtin; refine wpList_append_own _ rfl _ _ 47 rfl w'.heap.size 5 i0 (.int .u8 0) 1 1 Try.underlying47 hi hz0 hz1 hz2 rfl (by decide) _ _ _ rfl (hown.alloc _) ⟨wr.heap.size, 0, none⟩ 1 1 [.int .u8 62] rfl rfl (one_cellE _ _) (one_one _) (by unfold maxLen; omega) (by omega) (by simp; omega) ?_)
        intro v' w1 hown' hgrow _
        have R := own_step (q := true) hlt HE.out rfl (by simp [Lib.byteCells, HN.out]) hown'
        have hB1 := (hB.alloc hsz _).grown hgrow (by simp; omega) (fun k hk => (hown.lt k hk).1)
        clear hown' hgrow hown
        go_wp2
        go_roundw
        case rel => exact ⟨k + 1, by omega, by go_num, R, hB1⟩
        case measure => simp [intOf]; omega
      · have g0 : (s[k].toNat : Int) ≤ 34 := by omega
        have g1 : (34 : Int) ≤ s[k].toNat := by omega
        have he : escB true s[k] = [38, 113, 117, 111, 116, 59] := by unfold escB; simp [show s[k].toNat = 34 by omega]
        have HE : Hid (escB true s[k] = [38, 113, 117, 111, 116, 59]) := he
        clear he h
        go_wp2_with (at_builtin; refine Lib.wpList_append_own_string _ rfl _ _ 47 9 rfl w'.heap.size 5 i0 Try.underlying47 Try.underlying9 hi hz0 hz1 hz2 _ _ _ rfl hown ⟨#[38, 113, 117, 111, 116, 59]⟩ rfl (show _ + 6 ≤ _ by unfold maxLen; omega) (show _ + 6 ≤ _ by omega) hsz ?_)
        intro v' w1 hown' hgrow _
        have R := own_step (q := true) hlt HE.out rfl rfl hown'
        have hB1 := hB.grown hgrow hsz (fun k hk => (hown.lt k hk).1)
        clear hown' hgrow hown
        go_wp2
        go_roundw
        case rel => exact ⟨k + 1, by omega, by go_num, R, hB1⟩
        case measure => simp [intOf]; omega
      · obtain ⟨x0, x1, x2, x3⟩ := h
        have he : escB true s[k] = [s[k]] := by unfold escB; simp [show ¬ s[k].toNat = 38 by omega, show ¬ s[k].toNat = 60 by omega, show ¬ s[k].toNat = 62 by omega, show ¬ s[k].toNat = 34 by omega]
        have HE : Hid (escB true s[k] = [s[k]]) := he
        clear he
        go_wp2_with (at_builtin; refine wpList_append_own _ rfl _ _ 47 rfl w'.heap.size 5 i0 (.int .u8 0) 1 1 Try.underlying47 hi hz0 hz1 hz2 rfl (by decide) _ _ _ rfl (hown.alloc _) ⟨wr.heap.size, 0, none⟩ 1 1 [.int .u8 s[k].toNat] rfl rfl (one_cellE _ _) (one_one _) (by unfold maxLen; omega) (by omega) (by simp; omega) ?_)
        intro v' w1 hown' hgrow _
        have R := own_step (q := true) hlt HE.out rfl rfl hown'
        have hB1 := (hB.alloc hsz _).grown hgrow (by simp; omega) (fun k hk => (hown.lt k hk).1)
        clear hown' hgrow hown
        go_wp2
        go_roundw
        case rel => exact ⟨k + 1, by omega, by go_num, R, hB1⟩
        case measure => simp [intOf]; omega
    · have hk' : s.data.toList.take k = s.data.toList := plainL_full s k hlt
      rw [hk'] at hown
      have hr := run_str_own (P := Try.prog) (src := 47) (dst := 9) Try.underlying47 Try.underlying5 Try.underlying9 hown
      clear hown hk'
      go_wp2
      go_ret
      exact ⟨rfl, hB⟩

theorem c_spec_Escaped (s : ByteArray) (q : Bool) (w : World) (h0 : s.size ≤ 1048576) :
    Calls Try.prog 66 #[.string s, .bool q] w fun e w' => e = .returned (.string ⟨(escapedL q s.data.toList).toArray⟩) ∧ Below w.heap.size w w' := by
  cases hp : plainL s.data.toList
  · exact c_spec_Escaped_no s q w h0 hp
  · cases q
    · exact c_spec_Escaped_text s w h0 hp
    · exact c_spec_Escaped_quot s w h0 hp

theorem c_impl_Escaped (s : ByteArray) (q : Bool) (w : World) (h0 : s.size ≤ 1048576) :
    Calls Try.prog 59 #[.string s, .bool q] w fun e w' => e = .returned (.string ⟨(escapedL q s.data.toList).toArray⟩) ∧ Below w.heap.size w w' := by
  cases hp : plainL s.data.toList
  · exact c_impl_Escaped_no s q w h0 hp
  · cases q
    · exact c_impl_Escaped_text s w h0 hp
    · exact c_impl_Escaped_quot s w h0 hp

end Go.Proofs.Ytkcmagfbacmllab
