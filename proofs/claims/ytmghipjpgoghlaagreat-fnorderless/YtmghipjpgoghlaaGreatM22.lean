/- Contracts of spec.Escaped and impl.Escaped: both write what escapedL says. Contracts of what a token is shown as, of the specification. The one way to write it (mathematics alone). -/
import Derived.Test.YtmghipjpgoghlaaGreatRows
import Derived.Test.YtmghipjpgoghlaaGreatM8
import Derived.Test.YtmghipjpgoghlaaGreatM1
import Derived.Test.YtmghipjpgoghlaaGreatM21
import Derived.Test.YtmghipjpgoghlaaGreatM9
import Derived.Test.YtmghipjpgoghlaaGreatM20
import Derived.Test.YtmghipjpgoghlaaGreatM11
import Derived.Test.YtmghipjpgoghlaaGreatM13
import Derived.Test.YtmghipjpgoghlaaGreatM12
import Derived.WalkKit
namespace Go.Proofs.YtmghipjpgoghlaaGreat
open Go.RowKit

/-- One round of the builder's loop. -/
theorem esc_round {q : Bool} {s : ByteArray} {k : Nat} {w1 : World} {B : Nat} (hlt : k < s.size)
    (h : Lib.IsBuilder 150 5 B B (Lib.byteCells (escL q (s.data.toList.take k)) ++ Lib.strCells ⟨(escB q s[k]).toArray⟩) w1) :
    Lib.IsBuilder 150 5 B B (Lib.byteCells (escL q (s.data.toList.take (k + 1)))) w1 := by
  rw [take_snocE s k hlt, escL_snoc, byteCells_app, ← strCells_eq (escB q s[k])]
  exact h

theorem len_esc (q : Bool) (s : ByteArray) (k : Nat) (hk : k ≤ s.size) : (Lib.byteCells (escL q (s.data.toList.take k))).length ≤ 6 * s.size := by
  rw [Lib.byteCells_length]
  have h := escL_le q (s.data.toList.take k)
  have h2 : (s.data.toList.take k).length ≤ k := List.length_take_le _ _
  omega

theorem size_esc (q : Bool) (c : UInt8) : (⟨(escB q c).toArray⟩ : ByteArray).size ≤ 6 := by
  have := escB_le q c
  simpa [ByteArray.size] using this

set_option maxRecDepth 100000 in
set_option maxHeartbeats 1000000 in
theorem c_impl_Escaped_no (s : ByteArray) (q : Bool) (w : World) (h0 : s.size ≤ 1048576) (hp : plainL s.data.toList = false) :
    Calls Tryz.prog 72 #[.string s, .bool q] w fun e w' => e = .returned (.string ⟨(escapedL q s.data.toList).toArray⟩) ∧ Below w.heap.size w w' := by
  have e : escapedL q s.data.toList = [] := by simp [escapedL, hp]
  rw [e]
  go_enter Tryz.func72, Tryz.ntmps72
  go_wp2_with (go_at_call 117; refine (c_impl_PlainOk _ _ (by unfold maxLen; omega)).mono ?_; rintro e w' ⟨rfl, rfl⟩)
  go_ret
  exact ⟨rfl, Below.refl _ _⟩

set_option maxRecDepth 100000 in
set_option maxHeartbeats 1000000 in
theorem c_impl_Escaped_text (s : ByteArray) (w : World) (h0 : s.size ≤ 1048576) (hp : plainL s.data.toList = true) :
    Calls Tryz.prog 72 #[.string s, .bool false] w fun e w' => e = .returned (.string ⟨(escapedL false s.data.toList).toArray⟩) ∧ Below w.heap.size w w' := by
  have e : escapedL false s.data.toList = escL false s.data.toList := by simp [escapedL, hp]
  rw [e]; clear e
  go_enter Tryz.func72, Tryz.ntmps72
  go_wp2_with (go_at_call 117; refine (c_impl_PlainOk _ _ (by unfold maxLen; omega)).mono ?_; rintro e w' ⟨rfl, rfl⟩)
  go_loopw [14] (fun i wr => ∃ k : Nat, k ≤ s.size ∧ i = .int .i64 k ∧ Lib.IsBuilder 150 5 w'.heap.size w'.heap.size (Lib.byteCells (escL false (s.data.toList.take k))) wr ∧ Below w'.heap.size w' wr) (fun i _ => s.size - (intOf i).toNat)
  case atStart => exact ⟨0, Nat.zero_le _, rfl, Lib.fresh_isBuilder 150 5 _, (Below.refl _ _).alloc (Nat.le_refl _) _⟩
  case round =>
    obtain ⟨k, hk, rfl, hI, hB⟩ := hrel
    by_cases hlt : k < s.size
    · have hsz := hB.size
      have hl := len_esc false s k hk
      have h6 := size_esc false s[k]
      have HI : Hid (Lib.IsBuilder 150 5 w'.heap.size w'.heap.size (Lib.byteCells (escL false (s.data.toList.take k))) wr) := hI
      clear hI
      go_wp2_with (first
        | (go_at_call 118; refine (c__impl_sign__inText s[k] _).mono ?_; rintro e w1 ⟨rfl, hb1⟩)
        | (go_at_call 114; refine (writeString _ _ _ _ _ (isBuilder_below HI.out hb1) (by omega) (by have := hb1.size; omega)).mono ?_; rintro e w2 ⟨rfl, hI2, hb2, _⟩))
      go_roundw
      case rel => exact ⟨k + 1, by omega, by go_num, esc_round hlt hI2, hB.trans ((hb1.mono hsz).trans hb2)⟩
      case measure => simp [intOf]; omega
    · have hk' : s.data.toList.take k = s.data.toList := plainL_full s k hlt
      rw [hk'] at hI
      have hsz := hB.size
      go_wp2_with (go_at_call 116; refine (Tryz.Builder_String_any _ _ _ _ hI hsz).mono ?_; rintro e w2 ⟨rfl, hb2⟩)
      go_ret
      exact ⟨rfl, hB.trans hb2⟩
set_option maxRecDepth 100000 in
set_option maxHeartbeats 1000000 in
theorem c_impl_Escaped_quot (s : ByteArray) (w : World) (h0 : s.size ≤ 1048576) (hp : plainL s.data.toList = true) :
    Calls Tryz.prog 72 #[.string s, .bool true] w fun e w' => e = .returned (.string ⟨(escapedL true s.data.toList).toArray⟩) ∧ Below w.heap.size w w' := by
  have e : escapedL true s.data.toList = escL true s.data.toList := by simp [escapedL, hp]
  rw [e]; clear e
  go_enter Tryz.func72, Tryz.ntmps72
  go_wp2_with (go_at_call 117; refine (c_impl_PlainOk _ _ (by unfold maxLen; omega)).mono ?_; rintro e w' ⟨rfl, rfl⟩)
  go_loopw [14] (fun i wr => ∃ k : Nat, k ≤ s.size ∧ i = .int .i64 k ∧ Lib.IsBuilder 150 5 w'.heap.size w'.heap.size (Lib.byteCells (escL true (s.data.toList.take k))) wr ∧ Below w'.heap.size w' wr) (fun i _ => s.size - (intOf i).toNat)
  case atStart => exact ⟨0, Nat.zero_le _, rfl, Lib.fresh_isBuilder 150 5 _, (Below.refl _ _).alloc (Nat.le_refl _) _⟩
  case round =>
    obtain ⟨k, hk, rfl, hI, hB⟩ := hrel
    by_cases hlt : k < s.size
    · have hsz := hB.size
      have hl := len_esc true s k hk
      have h6 := size_esc true s[k]
      have HI : Hid (Lib.IsBuilder 150 5 w'.heap.size w'.heap.size (Lib.byteCells (escL true (s.data.toList.take k))) wr) := hI
      clear hI
      go_wp2_with (first
        | (go_at_call 119; refine (c__impl_sign__inQuotes s[k] _).mono ?_; rintro e w1 ⟨rfl, hb1⟩)
        | (go_at_call 114; refine (writeString _ _ _ _ _ (isBuilder_below HI.out hb1) (by omega) (by have := hb1.size; omega)).mono ?_; rintro e w2 ⟨rfl, hI2, hb2, _⟩))
      go_roundw
      case rel => exact ⟨k + 1, by omega, by go_num, esc_round hlt hI2, hB.trans ((hb1.mono hsz).trans hb2)⟩
      case measure => simp [intOf]; omega
    · have hk' : s.data.toList.take k = s.data.toList := plainL_full s k hlt
      rw [hk'] at hI
      have hsz := hB.size
      go_wp2_with (go_at_call 116; refine (Tryz.Builder_String_any _ _ _ _ hI hsz).mono ?_; rintro e w2 ⟨rfl, hb2⟩)
      go_ret
      exact ⟨rfl, hB.trans hb2⟩

theorem own_step {q : Bool} {s : ByteArray} {k : Nat} {w1 : World} {B n : Nat} {v : Value} {xs : List Value} {l : List UInt8} (hlt : k < s.size) (hl : escB q s[k] = l) (hn : n = l.length) (hx : xs = Lib.byteCells l)
    (h : w1.ownsRow B 5 1 v ((escL q (s.data.toList.take k)).length + n) (Lib.byteCells (escL q (s.data.toList.take k)) ++ xs)) :
    w1.ownsRow B 5 1 v (escL q (s.data.toList.take (k + 1))).length (Lib.byteCells (escL q (s.data.toList.take (k + 1)))) := by
  rw [take_snocE s k hlt, escL_snoc, byteCells_app, List.length_append, hl, ← hn, ← hx]
  exact h

theorem len_esc' (q : Bool) (s : ByteArray) (k : Nat) (hk : k ≤ s.size) : (escL q (s.data.toList.take k)).length ≤ 6 * s.size := by
  have h := escL_le q (s.data.toList.take k)
  have h2 : (s.data.toList.take k).length ≤ k := List.length_take_le _ _
  omega

theorem info5E : (Tryz.prog.info? 5).map (fun i => (i.zero, i.size, i.bytes)) = some (some (.int .u8 0), 1, 1) := by kernel_rfl

set_option maxRecDepth 100000 in
set_option maxHeartbeats 1000000 in
theorem c_spec_Escaped_no (s : ByteArray) (q : Bool) (w : World) (h0 : s.size ≤ 1048576) (hp : plainL s.data.toList = false) :
    Calls Tryz.prog 77 #[.string s, .bool q] w fun e w' => e = .returned (.string ⟨(escapedL q s.data.toList).toArray⟩) ∧ Below w.heap.size w w' := by
  have e : escapedL q s.data.toList = [] := by simp [escapedL, hp]
  rw [e]
  go_enter Tryz.func77, Tryz.ntmps77
  go_wp2_with (go_at_call 89; refine (c_spec_PlainOk _ _ (by unfold maxLen; omega)).mono ?_; rintro e w' ⟨rfl, rfl⟩)
  go_ret
  exact ⟨rfl, Below.refl _ _⟩

theorem one_cellE (w : World) (v : Value) : ∀ j u, [v][j]? = some u → (w.alloc (.cells #[v] 5)).cell? ((⟨w.heap.size, 0, none⟩ : Addr).add j) = some u := by
  intro j u hj
  match j, hj with
  | 0, hj => simp at hj; subst hj; simp [Addr.add]

theorem one_one (n : Int) : ∀ u ∈ [Value.int .u8 n], u.oneCell' = true := by
  intro u hu; simp at hu; subst hu; rfl

set_option maxRecDepth 100000 in
set_option maxHeartbeats 4000000 in
theorem c_spec_Escaped_text (s : ByteArray) (w : World) (h0 : s.size ≤ 1048576) (hp : plainL s.data.toList = true) :
    Calls Tryz.prog 77 #[.string s, .bool false] w fun e w' => e = .returned (.string ⟨(escapedL false s.data.toList).toArray⟩) ∧ Below w.heap.size w w' := by
  have e : escapedL false s.data.toList = escL false s.data.toList := by simp [escapedL, hp]
  rw [e]; clear e
  obtain ⟨i0, hi, hz0, hz1, hz2⟩ := info_parts info5E
  go_enter Tryz.func77, Tryz.ntmps77
  go_wp2_with (go_at_call 89; refine (c_spec_PlainOk _ _ (by unfold maxLen; omega)).mono ?_; rintro e w' ⟨rfl, rfl⟩)
  clear hp
  go_loopw [5, 6] (fun v i wr => ∃ k : Nat, k ≤ s.size ∧ i = .int .i64 k ∧ wr.ownsRow w'.heap.size 5 1 v (escL false (s.data.toList.take k)).length (Lib.byteCells (escL false (s.data.toList.take k))) ∧ Below w'.heap.size w' wr) (fun _ i _ => s.size - (intOf i).toNat)
  case atStart => exact ⟨0, Nat.zero_le _, rfl, World.ownsRow_made _ _ _ (Nat.le_refl _) (by decide) rfl, (Below.refl _ _).alloc (Nat.le_refl _) _⟩
  case round =>
    obtain ⟨k, hk, rfl, hown, hB⟩ := hrel
    have hsz := hB.size
    by_cases hlt : k < s.size
    · have hl := len_esc' false s k hk
      have cases : (s[k].toNat : Int) = 38 ∨ (s[k].toNat : Int) = 60 ∨ (s[k].toNat : Int) = 62 ∨ (s[k].toNat : Int) = 34 ∨ (¬ (s[k].toNat : Int) = 38 ∧ ¬ (s[k].toNat : Int) = 60 ∧ ¬ (s[k].toNat : Int) = 62 ∧ ¬ (s[k].toNat : Int) = 34) := by omega
      rcases cases with h | h | h | h | h
      · have g0 : (s[k].toNat : Int) ≤ 38 := by omega
        have g1 : (38 : Int) ≤ s[k].toNat := by omega
        have he : escB false s[k] = [38, 97, 109, 112, 59] := by unfold escB; simp [show s[k].toNat = 38 by omega]
        have HE : Hid (escB false s[k] = [38, 97, 109, 112, 59]) := he
        clear he h
        go_wp2_with (at_builtin; refine Lib.wpList_append_own_string _ rfl _ _ 22 9 rfl w'.heap.size 5 i0 Tryz.underlying22 Tryz.underlying9 hi hz0 hz1 hz2 _ _ _ rfl hown ⟨#[38, 97, 109, 112, 59]⟩ rfl (show _ + 5 ≤ _ by unfold maxLen; omega) (show _ + 5 ≤ _ by omega) hsz ?_)
        intro v' w1 hown' hgrow _
        have R := own_step (q := false) hlt HE.out rfl rfl hown'
        have hB1 := hB.grown hgrow hsz (fun k hk => (hown.lt k hk).1)
        clear hown' hgrow hown
        go_wp2
        go_roundw
        case rel => exact ⟨k + 1, by omega, by go_num, R, hB1⟩
        case measure => simp [intOf]; omega
      · have g0 : (s[k].toNat : Int) ≤ 60 := by omega
        have g1 : (60 : Int) ≤ s[k].toNat := by omega
        have he : escB false s[k] = [38, 108, 116, 59] := by unfold escB; simp [show s[k].toNat = 60 by omega]
        have HE : Hid (escB false s[k] = [38, 108, 116, 59]) := he
        clear he h
        go_wp2_with (at_builtin; refine Lib.wpList_append_own_string _ rfl _ _ 22 9 rfl w'.heap.size 5 i0 Tryz.underlying22 Tryz.underlying9 hi hz0 hz1 hz2 _ _ _ rfl hown ⟨#[38, 108, 116, 59]⟩ rfl (show _ + 4 ≤ _ by unfold maxLen; omega) (show _ + 4 ≤ _ by omega) hsz ?_)
        intro v' w1 hown' hgrow _
        have R := own_step (q := false) hlt HE.out rfl rfl hown'
        have hB1 := hB.grown hgrow hsz (fun k hk => (hown.lt k hk).1)
        clear hown' hgrow hown
        go_wp2
        go_roundw
        case rel => exact ⟨k + 1, by omega, by go_num, R, hB1⟩
        case measure => simp [intOf]; omega
      · have g0 : (s[k].toNat : Int) ≤ 62 := by omega
        have g1 : (62 : Int) ≤ s[k].toNat := by omega
        have he : escB false s[k] = [38, 103, 116, 59] := by unfold escB; simp [show s[k].toNat = 62 by omega]
        have HE : Hid (escB false s[k] = [38, 103, 116, 59]) := he
        clear he h
        go_wp2_with (at_builtin; refine Lib.wpList_append_own_string _ rfl _ _ 22 9 rfl w'.heap.size 5 i0 Tryz.underlying22 Tryz.underlying9 hi hz0 hz1 hz2 _ _ _ rfl hown ⟨#[38, 103, 116, 59]⟩ rfl (show _ + 4 ≤ _ by unfold maxLen; omega) (show _ + 4 ≤ _ by omega) hsz ?_)
        intro v' w1 hown' hgrow _
        have R := own_step (q := false) hlt HE.out rfl rfl hown'
        have hB1 := hB.grown hgrow hsz (fun k hk => (hown.lt k hk).1)
        clear hown' hgrow hown
        go_wp2
        go_roundw
        case rel => exact ⟨k + 1, by omega, by go_num, R, hB1⟩
        case measure => simp [intOf]; omega
      · have g0 : (s[k].toNat : Int) ≤ 34 := by omega
        have g1 : (34 : Int) ≤ s[k].toNat := by omega
        have he : escB false s[k] = [s[k]] := by unfold escB; simp [show s[k].toNat = 34 by omega]
        have HN : Hid ((s[k].toNat : Int) = 34) := h
        have HE : Hid (escB false s[k] = [s[k]]) := he
        clear he h
        go_wp2_with (at_builtin; refine wpList_append_own _ rfl _ _ 22 rfl w'.heap.size 5 i0 (.int .u8 0) 1 1 Tryz.underlying22 hi hz0 hz1 hz2 rfl (by decide) _ _ _ rfl (hown.alloc _) ⟨wr.heap.size, 0, none⟩ 1 1 [.int .u8 34] rfl rfl (one_cellE _ _) (one_one _) (by unfold maxLen; omega) (by omega) (by simp; omega) ?_)
        intro v' w1 hown' hgrow _
        have R := own_step (q := false) hlt HE.out rfl (by simp [Lib.byteCells, HN.out]) hown'
        have hB1 := (hB.alloc hsz _).grown hgrow (by simp; omega) (fun k hk => (hown.lt k hk).1)
        clear hown' hgrow hown
        go_wp2
        go_roundw
        case rel => exact ⟨k + 1, by omega, by go_num, R, hB1⟩
        case measure => simp [intOf]; omega
      · obtain ⟨x0, x1, x2, x3⟩ := h
        have he : escB false s[k] = [s[k]] := by unfold escB; simp [show ¬ s[k].toNat = 38 by omega, show ¬ s[k].toNat = 60 by omega, show ¬ s[k].toNat = 62 by omega, show ¬ s[k].toNat = 34 by omega]
        have HE : Hid (escB false s[k] = [s[k]]) := he
        clear he
        go_wp2_with (at_builtin; refine wpList_append_own _ rfl _ _ 22 rfl w'.heap.size 5 i0 (.int .u8 0) 1 1 Tryz.underlying22 hi hz0 hz1 hz2 rfl (by decide) _ _ _ rfl (hown.alloc _) ⟨wr.heap.size, 0, none⟩ 1 1 [.int .u8 s[k].toNat] rfl rfl (one_cellE _ _) (one_one _) (by unfold maxLen; omega) (by omega) (by simp; omega) ?_)
        intro v' w1 hown' hgrow _
        have R := own_step (q := false) hlt HE.out rfl rfl hown'
        have hB1 := (hB.alloc hsz _).grown hgrow (by simp; omega) (fun k hk => (hown.lt k hk).1)
        clear hown' hgrow hown
        go_wp2
        go_roundw
        case rel => exact ⟨k + 1, by omega, by go_num, R, hB1⟩
        case measure => simp [intOf]; omega
    · have hk' : s.data.toList.take k = s.data.toList := plainL_full s k hlt
      rw [hk'] at hown
      have hr := run_str_own (P := Tryz.prog) (src := 22) (dst := 9) Tryz.underlying22 Tryz.underlying5 Tryz.underlying9 hown
      clear hown hk'
      go_wp2
      go_ret
      exact ⟨rfl, hB⟩

set_option maxRecDepth 100000 in
set_option maxHeartbeats 4000000 in
theorem c_spec_Escaped_quot (s : ByteArray) (w : World) (h0 : s.size ≤ 1048576) (hp : plainL s.data.toList = true) :
    Calls Tryz.prog 77 #[.string s, .bool true] w fun e w' => e = .returned (.string ⟨(escapedL true s.data.toList).toArray⟩) ∧ Below w.heap.size w w' := by
  have e : escapedL true s.data.toList = escL true s.data.toList := by simp [escapedL, hp]
  rw [e]; clear e
  obtain ⟨i0, hi, hz0, hz1, hz2⟩ := info_parts info5E
  go_enter Tryz.func77, Tryz.ntmps77
  go_wp2_with (go_at_call 89; refine (c_spec_PlainOk _ _ (by unfold maxLen; omega)).mono ?_; rintro e w' ⟨rfl, rfl⟩)
  clear hp
  go_loopw [5, 6] (fun v i wr => ∃ k : Nat, k ≤ s.size ∧ i = .int .i64 k ∧ wr.ownsRow w'.heap.size 5 1 v (escL true (s.data.toList.take k)).length (Lib.byteCells (escL true (s.data.toList.take k))) ∧ Below w'.heap.size w' wr) (fun _ i _ => s.size - (intOf i).toNat)
  case atStart => exact ⟨0, Nat.zero_le _, rfl, World.ownsRow_made _ _ _ (Nat.le_refl _) (by decide) rfl, (Below.refl _ _).alloc (Nat.le_refl _) _⟩
  case round =>
    obtain ⟨k, hk, rfl, hown, hB⟩ := hrel
    have hsz := hB.size
    by_cases hlt : k < s.size
    · have hl := len_esc' true s k hk
      have cases : (s[k].toNat : Int) = 38 ∨ (s[k].toNat : Int) = 60 ∨ (s[k].toNat : Int) = 62 ∨ (s[k].toNat : Int) = 34 ∨ (¬ (s[k].toNat : Int) = 38 ∧ ¬ (s[k].toNat : Int) = 60 ∧ ¬ (s[k].toNat : Int) = 62 ∧ ¬ (s[k].toNat : Int) = 34) := by omega
      rcases cases with h | h | h | h | h
      · have g0 : (s[k].toNat : Int) ≤ 38 := by omega
        have g1 : (38 : Int) ≤ s[k].toNat := by omega
        have he : escB true s[k] = [38, 97, 109, 112, 59] := by unfold escB; simp [show s[k].toNat = 38 by omega]
        have HE : Hid (escB true s[k] = [38, 97, 109, 112, 59]) := he
        clear he h
        go_wp2_with (at_builtin; refine Lib.wpList_append_own_string _ rfl _ _ 22 9 rfl w'.heap.size 5 i0 Tryz.underlying22 Tryz.underlying9 hi hz0 hz1 hz2 _ _ _ rfl hown ⟨#[38, 97, 109, 112, 59]⟩ rfl (show _ + 5 ≤ _ by unfold maxLen; omega) (show _ + 5 ≤ _ by omega) hsz ?_)
        intro v' w1 hown' hgrow _
        have R := own_step (q := true) hlt HE.out rfl rfl hown'
        have hB1 := hB.grown hgrow hsz (fun k hk => (hown.lt k hk).1)
        clear hown' hgrow hown
        go_wp2
        go_roundw
        case rel => exact ⟨k + 1, by omega, by go_num, R, hB1⟩
        case measure => simp [intOf]; omega
      · have g0 : (s[k].toNat : Int) ≤ 60 := by omega
        have g1 : (60 : Int) ≤ s[k].toNat := by omega
        have he : escB true s[k] = [38, 108, 116, 59] := by unfold escB; simp [show s[k].toNat = 60 by omega]
        have HE : Hid (escB true s[k] = [38, 108, 116, 59]) := he
        clear he h
        go_wp2_with (at_builtin; refine Lib.wpList_append_own_string _ rfl _ _ 22 9 rfl w'.heap.size 5 i0 Tryz.underlying22 Tryz.underlying9 hi hz0 hz1 hz2 _ _ _ rfl hown ⟨#[38, 108, 116, 59]⟩ rfl (show _ + 4 ≤ _ by unfold maxLen; omega) (show _ + 4 ≤ _ by omega) hsz ?_)
        intro v' w1 hown' hgrow _
        have R := own_step (q := true) hlt HE.out rfl rfl hown'
        have hB1 := hB.grown hgrow hsz (fun k hk => (hown.lt k hk).1)
        clear hown' hgrow hown
        go_wp2
        go_roundw
        case rel => exact ⟨k + 1, by omega, by go_num, R, hB1⟩
        case measure => simp [intOf]; omega
      · have g0 : (s[k].toNat : Int) ≤ 62 := by omega
        have g1 : (62 : Int) ≤ s[k].toNat := by omega
        have he : escB true s[k] = [s[k]] := by unfold escB; simp [show s[k].toNat = 62 by omega]
        have HN : Hid ((s[k].toNat : Int) = 62) := h
        have HE : Hid (escB true s[k] = [s[k]]) := he
        clear he h
        go_wp2_with (at_builtin; refine wpList_append_own _ rfl _ _ 22 rfl w'.heap.size 5 i0 (.int .u8 0) 1 1 Tryz.underlying22 hi hz0 hz1 hz2 rfl (by decide) _ _ _ rfl (hown.alloc _) ⟨wr.heap.size, 0, none⟩ 1 1 [.int .u8 62] rfl rfl (one_cellE _ _) (one_one _) (by unfold maxLen; omega) (by omega) (by simp; omega) ?_)
        intro v' w1 hown' hgrow _
        have R := own_step (q := true) hlt HE.out rfl (by simp [Lib.byteCells, HN.out]) hown'
        have hB1 := (hB.alloc hsz _).grown hgrow (by simp; omega) (fun k hk => (hown.lt k hk).1)
        clear hown' hgrow hown
        go_wp2
        go_roundw
        case rel => exact ⟨k + 1, by omega, by go_num, R, hB1⟩
        case measure => simp [intOf]; omega
      · have g0 : (s[k].toNat : Int) ≤ 34 := by omega
        have g1 : (34 : Int) ≤ s[k].toNat := by omega
        have he : escB true s[k] = [38, 113, 117, 111, 116, 59] := by unfold escB; simp [show s[k].toNat = 34 by omega]
        have HE : Hid (escB true s[k] = [38, 113, 117, 111, 116, 59]) := he
        clear he h
        go_wp2_with (at_builtin; refine Lib.wpList_append_own_string _ rfl _ _ 22 9 rfl w'.heap.size 5 i0 Tryz.underlying22 Tryz.underlying9 hi hz0 hz1 hz2 _ _ _ rfl hown ⟨#[38, 113, 117, 111, 116, 59]⟩ rfl (show _ + 6 ≤ _ by unfold maxLen; omega) (show _ + 6 ≤ _ by omega) hsz ?_)
        intro v' w1 hown' hgrow _
        have R := own_step (q := true) hlt HE.out rfl rfl hown'
        have hB1 := hB.grown hgrow hsz (fun k hk => (hown.lt k hk).1)
        clear hown' hgrow hown
        go_wp2
        go_roundw
        case rel => exact ⟨k + 1, by omega, by go_num, R, hB1⟩
        case measure => simp [intOf]; omega
      · obtain ⟨x0, x1, x2, x3⟩ := h
        have he : escB true s[k] = [s[k]] := by unfold escB; simp [show ¬ s[k].toNat = 38 by omega, show ¬ s[k].toNat = 60 by omega, show ¬ s[k].toNat = 62 by omega, show ¬ s[k].toNat = 34 by omega]
        have HE : Hid (escB true s[k] = [s[k]]) := he
        clear he
        go_wp2_with (at_builtin; refine wpList_append_own _ rfl _ _ 22 rfl w'.heap.size 5 i0 (.int .u8 0) 1 1 Tryz.underlying22 hi hz0 hz1 hz2 rfl (by decide) _ _ _ rfl (hown.alloc _) ⟨wr.heap.size, 0, none⟩ 1 1 [.int .u8 s[k].toNat] rfl rfl (one_cellE _ _) (one_one _) (by unfold maxLen; omega) (by omega) (by simp; omega) ?_)
        intro v' w1 hown' hgrow _
        have R := own_step (q := true) hlt HE.out rfl rfl hown'
        have hB1 := (hB.alloc hsz _).grown hgrow (by simp; omega) (fun k hk => (hown.lt k hk).1)
        clear hown' hgrow hown
        go_wp2
        go_roundw
        case rel => exact ⟨k + 1, by omega, by go_num, R, hB1⟩
        case measure => simp [intOf]; omega
    · have hk' : s.data.toList.take k = s.data.toList := plainL_full s k hlt
      rw [hk'] at hown
      have hr := run_str_own (P := Tryz.prog) (src := 22) (dst := 9) Tryz.underlying22 Tryz.underlying5 Tryz.underlying9 hown
      clear hown hk'
      go_wp2
      go_ret
      exact ⟨rfl, hB⟩

theorem c_spec_Escaped (s : ByteArray) (q : Bool) (w : World) (h0 : s.size ≤ 1048576) :
    Calls Tryz.prog 77 #[.string s, .bool q] w fun e w' => e = .returned (.string ⟨(escapedL q s.data.toList).toArray⟩) ∧ Below w.heap.size w w' := by
  cases hp : plainL s.data.toList
  · exact c_spec_Escaped_no s q w h0 hp
  · cases q
    · exact c_spec_Escaped_text s w h0 hp
    · exact c_spec_Escaped_quot s w h0 hp

theorem c_impl_Escaped (s : ByteArray) (q : Bool) (w : World) (h0 : s.size ≤ 1048576) :
    Calls Tryz.prog 72 #[.string s, .bool q] w fun e w' => e = .returned (.string ⟨(escapedL q s.data.toList).toArray⟩) ∧ Below w.heap.size w w' := by
  cases hp : plainL s.data.toList
  · exact c_impl_Escaped_no s q w h0 hp
  · cases q
    · exact c_impl_Escaped_text s w h0 hp
    · exact c_impl_Escaped_quot s w h0 hp

end Go.Proofs.YtmghipjpgoghlaaGreat

namespace Go.Proofs.YtmghipjpgoghlaaGreat
open Go.RowKit
set_option linter.unusedVariables false
set_option linter.unusedSimpArgs false

/-- A text as it is escaped. -/
def escS (q : Bool) (s : ByteArray) : ByteArray := ⟨(escapedL q s.data.toList).toArray⟩

/-- An attr as it is shown. -/
def atS (x : At) : ByteArray := (((((⟨#[32]⟩ : ByteArray) ++ x.name) ++ ⟨#[61, 34]⟩) ++ escS true x.value) ++ ⟨#[34]⟩)

/-- Attrs as they are shown, behind what stands ahead. -/
def atsS : List At → ByteArray → ByteArray
  | [], s => s
  | x :: l, s => atsS l (s ++ atS x)

theorem atsS_snoc (l : List At) (x : At) (s : ByteArray) : atsS (l ++ [x]) s = atsS l s ++ atS x := by
  induction l generalizing s with
  | nil => rfl
  | cons y l ih => exact ih _

theorem escS_size (q : Bool) (s : ByteArray) : (escS q s).size ≤ 6 * s.size := by
  have e : (escS q s).size = (escapedL q s.data.toList).length := by unfold escS; simp [ByteArray.size]
  have e2 : s.size = s.data.toList.length := rfl
  rw [e, e2]
  unfold escapedL
  split
  · exact escL_le q _
  · simp

theorem atS_size (x : At) : (atS x).size ≤ 4 + x.name.size + 6 * x.value.size := by
  have h := escS_size true x.value
  have e1 : (⟨#[32]⟩ : ByteArray).size = 1 := rfl
  have e2 : (⟨#[61, 34]⟩ : ByteArray).size = 2 := rfl
  have e3 : (⟨#[34]⟩ : ByteArray).size = 1 := rfl
  unfold atS
  simp only [ByteArray.size_append, e1, e2, e3]
  omega

set_option maxHeartbeats 1000000 in
theorem cL7Attr (x : At) (w : World) (h1 : x.name.size ≤ 1048576) (h2 : x.value.size ≤ 1048576) :
    Calls Tryz.prog 81 #[.agg #[.string x.name, .string x.value]] w fun e w' => e = .returned (.string (atS x)) ∧ Below w.heap.size w w' := by
  have C := fun w => c_spec_Escaped x.value true w h2
  have hz := escS_size true x.value
  have e0 : atS x = (((((⟨#[32]⟩ : ByteArray) ++ x.name) ++ ⟨#[61, 34]⟩) ++ escS true x.value) ++ ⟨#[34]⟩) := rfl
  rw [e0]
  have e1 : (⟨(escapedL true x.value.data.toList).toArray⟩ : ByteArray) = escS true x.value := rfl
  rw [e1] at C
  obtain ⟨E, hE⟩ : ∃ E, escS true x.value = E := ⟨_, rfl⟩
  rw [hE] at C hz ⊢
  clear e0 e1 hE
  generalize x.name = n at *
  generalize x.value = v at *
  have HB0 := hid ((Below.refl w.heap.size w).alloc (Nat.le_refl _) (.cells #[.string n, .string v] 42))
  have M := hid (heap_alloc_new w (.cells #[.string n, .string v] 42))
  obtain ⟨W, hW⟩ : ∃ W, w.alloc (.cells #[.string n, .string v] 42) = W := ⟨_, rfl⟩
  rw [hW] at HB0 M
  have k1 : W.cell? ⟨w.heap.size, 0, none⟩ = some (.string n) := by rw [Lib.cell_of_heap M.out]; rfl
  have k2 : W.cell? ⟨w.heap.size, 0 + 1, none⟩ = some (.string v) := by rw [Lib.cell_of_heap M.out]; rfl
  obtain ⟨d1, d2⟩ := pair_bw (lt_of_heap M.out) k1 k2
  simp only [Nat.zero_add] at d2
  clear k1 k2
  have HNB := hid (bw_any W)
  go_enter Tryz.func81, Tryz.ntmps81
  go_wp2_with fail
  haveI := HNB.out
  refine wp_region_below (by kernel_rfl) (by kernel_rfl) (Below.refl W.heap.size W) ?_
  repeat (go_big_quiet_step ((go_at_call 77; exact calls_bw _ (C _))))
  refine wpQuiet_nil ?_
  intro _ hw'
  obtain ⟨⟨wq, hwq⟩, hw''⟩ := hw'
  subst hw''
  have HB2 := hid (bb HB0.out hwq)
  go_wp2_with fail
  go_ret
  exact ⟨rfl, HB2.out⟩

/-- A token as it is shown. -/
def showS (t : Tk) : ByteArray :=
  if t.kind = 2 then ((⟨#[60, 47]⟩ : ByteArray) ++ t.name) ++ ⟨#[62]⟩
  else if t.kind = 3 then escS false t.text
  else atsS t.attrs ((⟨#[60]⟩ : ByteArray) ++ t.name) ++ ⟨#[62]⟩

theorem atsS_size (l : List At) (s : ByteArray) (hz : AtSz 1048576 l) : (atsS l s).size ≤ s.size + l.length * 7340036 := by
  induction l generalizing s with
  | nil => simp [atsS]
  | cons x l ih =>
    have h1 := ih (s ++ atS x) (fun y hy => hz y (List.mem_cons_of_mem _ hy))
    have h2 := atS_size x
    have h3 := hz x List.mem_cons_self
    rw [ByteArray.size_append] at h1
    rw [List.length_cons]
    show (atsS l (s ++ atS x)).size ≤ _
    omega

theorem tokB_len {t : Tk} (h : tokB t = true) : t.attrs.length ≤ 6 := by
  unfold tokB at h
  split at h
  · simp only [Bool.and_eq_true] at h
    have h2 := h.2.1
    by_cases k : AttrsOk t.attrs
    · exact k.1
    · rw [attrsB_f k] at h2
      cases h2
  · split at h
    · simp only [Bool.and_eq_true, decide_eq_true_eq] at h
      omega
    · split at h
      · simp only [Bool.and_eq_true, decide_eq_true_eq] at h
        omega
      · cases h

/-- What ShowToken answers. -/
noncomputable def shownT (t : Tk) : ByteArray := if tokB t = true then showS t else ⟨#[]⟩

end Go.Proofs.YtmghipjpgoghlaaGreat

namespace Go.Proofs.YtmghipjpgoghlaaGreat
open Go.RowKit
set_option linter.unusedVariables false

/-- Where an attr comes to stand: behind all that it is not ahead of. -/
noncomputable def insN (ts : List Tk) (k : Nat) (aL : List At) (x : At) : Nat := (aL.takeWhile fun y => !aheadF ts k x y).length

theorem insN_is {ts : List Tk} {k : Nat} {aL : List At} {x : At} {j : Nat} (hj : j ≤ aL.length) (h1 : ∀ y ∈ aL.take j, aheadF ts k x y = false) (h2 : ∀ h : j < aL.length, aheadF ts k x aL[j] = true) : insN ts k aL x = j := by
  unfold insN
  induction aL generalizing j with
  | nil =>
    have : j = 0 := by simpa using hj
    subst this
    rfl
  | cons y aL ih =>
    cases j with
    | zero =>
      have h := h2 (by simp)
      simp only [List.getElem_cons_zero] at h
      rw [List.takeWhile_cons, h]
      rfl
    | succ j =>
      rw [List.takeWhile_cons, h1 y (by simp)]
      simp only [Bool.not_false, if_true, List.length_cons]
      rw [ih (by simpa using hj) (fun z hz => h1 z (by simp [hz])) (fun h => by have := h2 (by simpa using h); simpa using this)]

theorem tw_low {α : Type} {p : α → Bool} : ∀ {l : List α} {j : Nat}, j < (l.takeWhile p).length → ∃ h : j < l.length, p l[j] = true
  | [], j, h => by simp at h
  | x :: l, j, h => by
    rw [List.takeWhile_cons] at h
    split at h
    · rename_i hx
      cases j with
      | zero => exact ⟨by simp, hx⟩
      | succ j =>
        obtain ⟨h1, h2⟩ := tw_low (l := l) (j := j) (by simpa using h)
        exact ⟨by simpa using h1, by simpa using h2⟩
    · simp at h

theorem tw_at {α : Type} {p : α → Bool} : ∀ {l : List α} (h : (l.takeWhile p).length < l.length), p l[(l.takeWhile p).length] = false
  | [], h => by simp at h
  | x :: l, h => by
    by_cases hx : p x = true
    · have e : (List.takeWhile p (x :: l)).length = (List.takeWhile p l).length + 1 := by rw [List.takeWhile_cons, if_pos hx]; rfl
      have h' : (List.takeWhile p l).length < l.length := by rw [e] at h; simpa using h
      have := tw_at h'
      simp only [e, List.getElem_cons_succ]
      exact this
    · have e : (List.takeWhile p (x :: l)).length = 0 := by rw [List.takeWhile_cons, if_neg hx]; rfl
      simp only [e, List.getElem_cons_zero]
      simpa using hx

theorem insN_le (ts : List Tk) (k : Nat) (aL : List At) (x : At) : insN ts k aL x ≤ aL.length := (List.takeWhile_sublist _).length_le

theorem insN_low {ts : List Tk} {k : Nat} {aL : List At} {x : At} {j : Nat} (h : j < insN ts k aL x) (hj : j < aL.length) : aheadF ts k x aL[j] = false := by
  obtain ⟨_, h2⟩ := tw_low h
  simpa using h2

theorem insN_at {ts : List Tk} {k : Nat} {aL : List At} {x : At} {j : Nat} (h : insN ts k aL x = j) (hj : j < aL.length) : aheadF ts k x aL[j] = true := by
  subst h
  have h2 : (!aheadF ts k x aL[insN ts k aL x]) = false := tw_at (p := fun y => !aheadF ts k x y) (l := aL) hj
  simpa using h2

noncomputable def insA (ts : List Tk) (k : Nat) (aL : List At) (x : At) : List At := aL.take (insN ts k aL x) ++ x :: aL.drop (insN ts k aL x)

theorem insA_is {ts : List Tk} {k : Nat} {aL : List At} {x : At} {j : Nat} (h : insN ts k aL x = j) : insA ts k aL x = aL.take j ++ x :: aL.drop j := by unfold insA; rw [h]

theorem insA_len (ts : List Tk) (k : Nat) (aL : List At) (x : At) : (insA ts k aL x).length = aL.length + 1 := by
  unfold insA
  rw [List.length_append, List.length_cons, List.length_take, List.length_drop]
  omega

theorem insA_mem {ts : List Tk} {k : Nat} {aL : List At} {x y : At} (h : y ∈ insA ts k aL x) : y ∈ aL ∨ y = x := by
  unfold insA at h
  rcases List.mem_append.1 h with h' | h'
  · exact .inl (List.mem_of_mem_take h')
  · rcases List.mem_cons.1 h' with h'' | h''
    · exact .inr h''
    · exact .inl (List.mem_of_mem_drop h'')

/-- What the attrs of a node tell: the prefixes that are needed, the others aL they are written. -/
noncomputable def accP (ps : List ByteArray) (x : At) : List ByteArray := if (declF x).isSome then ps else if (preS x.name).size = 0 then ps else putS ps (preS x.name)

noncomputable def accB (ts : List Tk) (k : Nat) (aL : List At) (x : At) : List At := if (declF x).isSome then aL else insA ts k aL x

noncomputable def preL7 (nm : ByteArray) (l : List At) : List ByteArray := l.foldl accP [preS nm]

noncomputable def othL (ts : List Tk) (k : Nat) (l : List At) : List At := l.foldl (accB ts k) []

theorem preL7_next {nm : ByteArray} {l : List At} {i : Nat} (h : i < l.length) : preL7 nm (l.take (i + 1)) = accP (preL7 nm (l.take i)) l[i] := by
  unfold preL7
  rw [take_snocN h, List.foldl_append]
  rfl

theorem othL_next {ts : List Tk} {k : Nat} {l : List At} {i : Nat} (h : i < l.length) : othL ts k (l.take (i + 1)) = accB ts k (othL ts k (l.take i)) l[i] := by
  unfold othL
  rw [take_snocN h, List.foldl_append]
  rfl

theorem accP_no {ps : List ByteArray} {x : At} (h : (declF x).isSome = true) : accP ps x = ps := by unfold accP; rw [if_pos h]
theorem accP_none {ps : List ByteArray} {x : At} (h : (declF x).isSome = false) (h2 : (preS x.name).size = 0) : accP ps x = ps := by unfold accP; rw [if_neg (by rw [h]; exact Bool.false_ne_true), if_pos h2]
theorem accP_put {ps : List ByteArray} {x : At} (h : (declF x).isSome = false) (h2 : ¬ (preS x.name).size = 0) : accP ps x = putS ps (preS x.name) := by unfold accP; rw [if_neg (by rw [h]; exact Bool.false_ne_true), if_neg h2]
theorem accB_no {ts : List Tk} {k : Nat} {aL : List At} {x : At} (h : (declF x).isSome = true) : accB ts k aL x = aL := by unfold accB; rw [if_pos h]
theorem accB_put {ts : List Tk} {k : Nat} {aL : List At} {x : At} (h : (declF x).isSome = false) : accB ts k aL x = insA ts k aL x := by unfold accB; rw [if_neg (by rw [h]; exact Bool.false_ne_true)]

theorem preL7_all {nm : ByteArray} {b : Nat} (hb : (preS nm).size ≤ b) (l : List At) (hl : ∀ x ∈ l, (preS x.name).size ≤ b) : (preL7 nm l).length ≤ l.length + 1 ∧ 1 ≤ (preL7 nm l).length ∧ ∀ p ∈ preL7 nm l, p.size ≤ b := by
  unfold preL7
  have key : ∀ (l : List At) (ps : List ByteArray), (∀ x ∈ l, (preS x.name).size ≤ b) → 1 ≤ ps.length → (∀ p ∈ ps, p.size ≤ b) → (l.foldl accP ps).length ≤ ps.length + l.length ∧ 1 ≤ (l.foldl accP ps).length ∧ ∀ p ∈ l.foldl accP ps, p.size ≤ b := by
    intro l
    induction l with
    | nil => intro ps _ h1 h2; exact ⟨by simp, h1, h2⟩
    | cons x l ih =>
      intro ps h0 h1 h2
      have hx := h0 x (by simp)
      have h3 : (accP ps x).length ≤ ps.length + 1 ∧ 1 ≤ (accP ps x).length ∧ ∀ p ∈ accP ps x, p.size ≤ b := by
        unfold accP
        split
        · exact ⟨by omega, h1, h2⟩
        · split
          · exact ⟨by omega, h1, h2⟩
          · have := putS_len ps (preS x.name)
            refine ⟨this.1, by omega, fun p hp => ?_⟩
            rcases putS_mem hp with h' | h'
            · exact h2 p h'
            · rw [h']; exact hx
      obtain ⟨g1, g2, g3⟩ := ih (accP ps x) (fun y hy => h0 y (by simp [hy])) h3.2.1 h3.2.2
      rw [List.foldl_cons, List.length_cons]
      exact ⟨by omega, g2, g3⟩
  obtain ⟨g1, g2, g3⟩ := key l [preS nm] hl (by simp) (fun p hp => by rw [List.mem_singleton.1 hp]; exact hb)
  exact ⟨by simpa [Nat.add_comm] using g1, g2, g3⟩

theorem othL_all {ts : List Tk} {k : Nat} (l : List At) : (othL ts k l).length ≤ l.length ∧ ∀ y ∈ othL ts k l, y ∈ l := by
  unfold othL
  have key : ∀ (l : List At) (aL : List At), (l.foldl (accB ts k) aL).length ≤ aL.length + l.length ∧ ∀ y ∈ l.foldl (accB ts k) aL, y ∈ aL ∨ y ∈ l := by
    intro l
    induction l with
    | nil => intro aL; exact ⟨by simp, fun y hy => .inl hy⟩
    | cons x l ih =>
      intro aL
      have h3 : (accB ts k aL x).length ≤ aL.length + 1 ∧ ∀ y ∈ accB ts k aL x, y ∈ aL ∨ y = x := by
        unfold accB
        split
        · exact ⟨by omega, fun y hy => .inl hy⟩
        · exact ⟨by rw [insA_len]; exact Nat.le_refl _, fun y hy => insA_mem hy⟩
      obtain ⟨g1, g2⟩ := ih (accB ts k aL x)
      rw [List.foldl_cons, List.length_cons]
      refine ⟨by omega, fun y hy => ?_⟩
      rcases g2 y hy with h' | h'
      · rcases h3.2 y h' with h'' | h''
        · exact .inl h''
        · exact .inr (by rw [h'']; exact List.mem_cons_self ..)
      · exact .inr (List.mem_cons_of_mem _ h')
  obtain ⟨g1, g2⟩ := key l []
  exact ⟨by simpa using g1, fun y hy => (g2 y hy).resolve_left List.not_mem_nil⟩

/-- The name of a declaration. -/
def nmD (p : ByteArray) : ByteArray := if p.size = 0 then ⟨#[110, 115]⟩ else (⟨#[110, 115, 58]⟩ : ByteArray) ++ p

/-- It needs not be written. -/
noncomputable def skipB (sd : List At) (p m : ByteArray) : Bool := open Classical in match lastF sd p with | some x => decide (x = m) | none => decide (p.size = 0) && decide (m.size = 0)

noncomputable def dclS (s p m : ByteArray) : ByteArray := ((((s ++ (⟨#[32]⟩ : ByteArray)) ++ nmD p) ++ ⟨#[61, 34]⟩) ++ m) ++ ⟨#[34]⟩

noncomputable def mnF (ts : List Tk) (k : Nat) (p : ByteArray) : ByteArray := (meanF ts k p).getD ⟨#[]⟩

noncomputable def dclF (ts : List Tk) (k : Nat) (z : List At × ByteArray) (p : ByteArray) : List At × ByteArray := if skipB z.1 p (mnF ts k p) then z else (z.1 ++ [⟨p, mnF ts k p⟩], dclS z.2 p (mnF ts k p))

noncomputable def dclL (ts : List Tk) (k : Nat) (sd : List At) (s : ByteArray) (ps : List ByteArray) : List At × ByteArray := ps.foldl (dclF ts k) (sd, s)

theorem dclL_next {ts : List Tk} {k : Nat} {sd : List At} {s : ByteArray} {ps : List ByteArray} {i : Nat} (h : i < ps.length) : dclL ts k sd s (ps.take (i + 1)) = dclF ts k (dclL ts k sd s (ps.take i)) ps[i] := by
  unfold dclL
  rw [take_snocN h, List.foldl_append]
  rfl

theorem nmD_size (p : ByteArray) : (nmD p).size ≤ p.size + 3 := by
  unfold nmD
  split
  · exact Nat.le_add_left_of_le (by decide)
  · rw [ByteArray.size_append]
    have : (⟨#[110, 115, 58]⟩ : ByteArray).size = 3 := rfl
    omega

theorem dclS_size (s p m : ByteArray) : (dclS s p m).size ≤ s.size + p.size + m.size + 7 := by
  have h := nmD_size p
  have e1 : (⟨#[32]⟩ : ByteArray).size = 1 := rfl
  have e2 : (⟨#[61, 34]⟩ : ByteArray).size = 2 := rfl
  have e3 : (⟨#[34]⟩ : ByteArray).size = 1 := rfl
  unfold dclS
  simp only [ByteArray.size_append, e1, e2, e3]
  omega

theorem dclL_all {ts : List Tk} {k : Nat} (hz : TksSz 1048576 ts) (sd : List At) (s : ByteArray) (ps : List ByteArray) (hp : ∀ p ∈ ps, p.size ≤ 1048576) : (dclL ts k sd s ps).1.length ≤ sd.length + ps.length ∧ (dclL ts k sd s ps).2.size ≤ s.size + 2100000 * ps.length := by
  unfold dclL
  induction ps generalizing sd s with
  | nil => exact ⟨by simp, by simp⟩
  | cons p ps ih =>
    rw [List.foldl_cons, List.length_cons]
    have h1 := hp p (by simp)
    have h2 : (mnF ts k p).size ≤ 1048576 := meanF_sz hz p
    have h3 := dclS_size s p (mnF ts k p)
    unfold dclF
    simp only
    split
    · obtain ⟨g1, g2⟩ := ih sd s (fun q hq => hp q (by simp [hq]))
      unfold dclF at g1 g2
      exact ⟨by omega, by omega⟩
    · obtain ⟨g1, g2⟩ := ih (sd ++ [⟨p, mnF ts k p⟩]) (dclS s p (mnF ts k p)) (fun q hq => hp q (by simp [hq]))
      unfold dclF at g1 g2
      rw [List.length_append, List.length_singleton] at g1
      exact ⟨by omega, by omega⟩

theorem atsS_szC {l : List At} (hl : AtSz 1048576 l) (s : ByteArray) : (atsS l s).size ≤ s.size + 8000000 * l.length := by
  induction l generalizing s with
  | nil => simp [atsS]
  | cons x l ih =>
    have h1 := hl x (by simp)
    have h2 := atS_size x
    have h3 := ih (fun y hy => hl y (by simp [hy])) (s ++ atS x)
    rw [ByteArray.size_append] at h3
    show (atsS l (s ++ atS x)).size ≤ _
    rw [List.length_cons]
    omega

/-- A node and all it has but one, with what was said around it. -/
noncomputable def canonN (ts : List Tk) (but : Int) : Nat → Nat → List At → ByteArray
  | 0, _, _ => ⟨#[]⟩
  | f + 1, k, sd => if (k : Int) = but then ⟨#[]⟩ else if (nodeAt ts k).name.size = 0 then escS false (nodeAt ts k).text else
    (((kidsN ts k).foldl (fun s j => s ++ canonN ts but f j (dclL ts k sd ((⟨#[60]⟩ : ByteArray) ++ (nodeAt ts k).name) (preL7 (nodeAt ts k).name (nodeAt ts k).attrs)).1)
      (atsS (othL ts k (nodeAt ts k).attrs) (dclL ts k sd ((⟨#[60]⟩ : ByteArray) ++ (nodeAt ts k).name) (preL7 (nodeAt ts k).name (nodeAt ts k).attrs)).2 ++ ⟨#[62]⟩)
      ++ ⟨#[60, 47]⟩) ++ (nodeAt ts k).name) ++ ⟨#[62]⟩

/-- What stands ahead of the kids. -/
noncomputable def headS (ts : List Tk) (k : Nat) (sd : List At) (t : Tk) : ByteArray := atsS (othL ts k t.attrs) (dclL ts k sd ((⟨#[60]⟩ : ByteArray) ++ t.name) (preL7 t.name t.attrs)).2 ++ ⟨#[62]⟩

noncomputable def saidL (ts : List Tk) (k : Nat) (sd : List At) (t : Tk) : List At := (dclL ts k sd ((⟨#[60]⟩ : ByteArray) ++ t.name) (preL7 t.name t.attrs)).1

theorem canonN_but {ts : List Tk} {but : Int} {f k : Nat} {sd : List At} (h : (k : Int) = but) : canonN ts but (f + 1) k sd = ⟨#[]⟩ := by
  unfold canonN
  rw [if_pos h]

theorem canonN_text {ts : List Tk} {but : Int} {f k : Nat} {sd : List At} {t : Tk} (ht : nodeAt ts k = t) (h : ¬ (k : Int) = but) (h2 : t.name.size = 0) : canonN ts but (f + 1) k sd = escS false t.text := by
  subst ht
  unfold canonN
  rw [if_neg h, if_pos h2]

theorem canonN_el {ts : List Tk} {but : Int} {f k : Nat} {sd : List At} {t : Tk} (ht : nodeAt ts k = t) (h : ¬ (k : Int) = but) (h2 : ¬ t.name.size = 0) : canonN ts but (f + 1) k sd = (((kidsN ts k).foldl (fun s j => s ++ canonN ts but f j (saidL ts k sd t)) (headS ts k sd t) ++ ⟨#[60, 47]⟩) ++ t.name) ++ ⟨#[62]⟩ := by
  subst ht
  conv => lhs; unfold canonN
  rw [if_neg h, if_neg h2]
  rfl

theorem nodeAt_sz {ts : List Tk} (hz : TksSz 1048576 ts) (k : Nat) : TkSz 1048576 (nodeAt ts k) := by
  by_cases h : k < ts.length
  · rw [nodeAt_at h]; exact hz _ (List.getElem_mem h)
  · unfold nodeAt
    rw [List.getElem?_eq_none (by omega)]
    exact ⟨Nat.zero_le _, Nat.zero_le _, fun x hx => absurd hx List.not_mem_nil, Nat.zero_le _⟩

theorem six_at {ts : List Tk} (h : TreeP ts) (k : Nat) (hne : ¬ (nodeAt ts k).name.size = 0) : (nodeAt ts k).attrs.length ≤ 6 := by
  by_cases hk : k < ts.length
  · rw [nodeAt_at hk] at hne ⊢
    obtain ⟨⟨_, hb⟩, _⟩ := h.2.2.2.2 k hk
    rw [nodeB_el hne] at hb
    simp only [Bool.and_eq_true] at hb
    by_cases q : AttrsOk ts[k].attrs
    · exact q.1
    · rw [attrsB_f q] at hb
      cases hb.2.1
  · unfold nodeAt
    rw [List.getElem?_eq_none (by omega)]
    exact Nat.zero_le _

/-- Bounds of what stands ahead of the kids. -/
theorem head_all {ts : List Tk} {k : Nat} {sd : List At} {t : Tk} (hz : TksSz 1048576 ts) (ht : TkSz 1048576 t) (h6 : t.attrs.length ≤ 6) : (headS ts k sd t).size ≤ 65000000 ∧ (saidL ts k sd t).length ≤ sd.length + 7 := by
  obtain ⟨p1, p2, p3⟩ := preL7_all (b := 1048576) (preS_sz ht.1) t.attrs (fun x hx => preS_sz (ht.2.2.1 x hx).1)
  obtain ⟨d1, d2⟩ := dclL_all (k := k) hz sd ((⟨#[60]⟩ : ByteArray) ++ t.name) (preL7 t.name t.attrs) p3
  obtain ⟨o1, o2⟩ := othL_all (ts := ts) (k := k) t.attrs
  have a1 := atsS_szC (l := othL ts k t.attrs) (fun y hy => ht.2.2.1 y (o2 y hy)) (dclL ts k sd ((⟨#[60]⟩ : ByteArray) ++ t.name) (preL7 t.name t.attrs)).2
  have e1 : ((⟨#[60]⟩ : ByteArray) ++ t.name).size = 1 + t.name.size := by rw [ByteArray.size_append]; rfl
  have e2 : (⟨#[62]⟩ : ByteArray).size = 1 := rfl
  have := ht.1
  unfold headS saidL
  rw [ByteArray.size_append, e2]
  exact ⟨by omega, by omega⟩

theorem fold_size (g : Nat → ByteArray) (l : List Nat) (s : ByteArray) : (l.foldl (fun s j => s ++ g j) s).size = s.size + (l.map fun j => (g j).size).sum := by
  induction l generalizing s with
  | nil => simp
  | cons x l ih =>
    rw [List.foldl_cons, ih, ByteArray.size_append, List.map_cons, List.sum_cons]
    omega

theorem kids_sum {ts : List Tk} {k : Nat} (C : Nat) (L : Nat → Nat) (hk : k < ts.length) (hL : ∀ i, k < i → i < endN ts k → L i ≤ C * (endN ts i - i)) :
    ∀ e, k < e → e ≤ endN ts k → ∃ m, k + 1 ≤ m ∧ m ≤ endN ts k ∧ ((kidsTo ts k e).map L).sum ≤ C * (m - (k + 1)) ∧ ∀ j, e ≤ j → j < endN ts k → parI ts j = (k : Int) → m ≤ j := by
  have hle := endN_le hk
  intro e
  induction e with
  | zero => intro h; omega
  | succ e ih =>
    intro h1 h2
    by_cases he : e = k
    · subst he
      refine ⟨e + 1, Nat.le_refl _, h2, ?_, fun j hj _ _ => by omega⟩
      rw [kidsTo_first]
      simp
    · obtain ⟨m, m1, m2, m3, m4⟩ := ih (by omega) (by omega)
      rw [kidsTo_next (by omega)]
      by_cases q : parI ts e = (k : Int)
      · rw [if_pos q, List.map_append, List.sum_append]
        obtain ⟨q1, q2⟩ := kid_end hk (show k < e by omega) (by omega)
        have hm := m4 e (Nat.le_refl _) (by omega) q
        have hl := hL e (by omega) (by omega)
        have he2 := endN_le (ts := ts) (k := e) (by omega)
        refine ⟨endN ts e, by omega, q1, ?_, fun j hj hjn hp => q2 j (by omega) (by omega) hp⟩
        simp only [List.map_cons, List.map_nil, List.sum_cons, List.sum_nil]
        have h5 : C * (m - (k + 1)) ≤ C * (e - (k + 1)) := Nat.mul_le_mul_left _ (by omega)
        have h6 : C * (e - (k + 1)) + C * (endN ts e - e) = C * (endN ts e - (k + 1)) := by rw [← Nat.mul_add]; congr 1; omega
        omega
      · rw [if_neg q, List.append_nil]
        exact ⟨m, m1, m2, m3, fun j hj hjn hp => m4 j (by omega) hjn hp⟩

theorem kidsTo_end {ts : List Tk} (h : TreeP ts) {k : Nat} (hk : k < ts.length) : kidsN ts k = kidsTo ts k (endN ts k) := by
  have hle := endN_le hk
  have key : ∀ d, endN ts k + d ≤ ts.length → kidsTo ts k (endN ts k + d) = kidsTo ts k (endN ts k) := by
    intro d
    induction d with
    | zero => intro _; rfl
    | succ d ih =>
      intro hd
      rw [← Nat.add_assoc, kidsTo_next (by omega), if_neg (no_kid h hk (by omega) (by omega)), List.append_nil]
      exact ih (by omega)
  have := key (ts.length - endN ts k) (by omega)
  rw [show endN ts k + (ts.length - endN ts k) = ts.length by omega] at this
  exact this

/-- It is not long. -/
theorem canon_size {ts : List Tk} (hT : TreeP ts) (hz : TksSz 1048576 ts) (but : Int) : ∀ f k sd, k < ts.length → (canonN ts but f k sd).size ≤ 70000000 * (endN ts k - k)
  | 0, k, sd, _ => Nat.zero_le _
  | f + 1, k, sd, hk => by
    have hle := endN_le hk
    have hm : 70000000 * 1 ≤ 70000000 * (endN ts k - k) := Nat.mul_le_mul_left _ (by omega)
    have hsz := nodeAt_sz hz k
    by_cases hb : (k : Int) = but
    · rw [canonN_but hb]
      exact Nat.zero_le _
    · by_cases hn : (nodeAt ts k).name.size = 0
      · rw [canonN_text rfl hb hn]
        have h1 := escS_size false (nodeAt ts k).text
        have h2 := hsz.2.2.2
        omega
      · rw [canonN_el rfl hb hn]
        have h1 := (head_all (k := k) (sd := sd) hz hsz (six_at hT k hn)).1
        obtain ⟨m, m1, m2, m3, _⟩ := kids_sum 70000000 (fun j => (canonN ts but f j (saidL ts k sd (nodeAt ts k))).size) hk (fun i h1 h2 => canon_size hT hz but f i _ (by omega)) (endN ts k) hle.1 (Nat.le_refl _)
        have e1 : (⟨#[60, 47]⟩ : ByteArray).size = 2 := rfl
        have e2 : (⟨#[62]⟩ : ByteArray).size = 1 := rfl
        rw [ByteArray.size_append, ByteArray.size_append, ByteArray.size_append, fold_size, kidsTo_end hT hk, e1, e2]
        have h3 : 70000000 * (m - (k + 1)) ≤ 70000000 * (endN ts k - (k + 1)) := Nat.mul_le_mul_left _ (by omega)
        have h4 : 70000000 * (endN ts k - (k + 1)) + 70000000 * 1 = 70000000 * (endN ts k - k) := by rw [← Nat.mul_add]; congr 1; omega
        have h5 := hsz.1
        omega

/-- Of some kids. -/
theorem kids_size {ts : List Tk} (hT : TreeP ts) (hz : TksSz 1048576 ts) (but : Int) (f : Nat) (sd : List At) (l : List Nat) (hl : ∀ j ∈ l, j < ts.length) (hn : l.length ≤ 50) (s : ByteArray) : (l.foldl (fun s j => s ++ canonN ts but f j sd) s).size ≤ s.size + 3500000000 * l.length := by
  rw [fold_size]
  have h50 : ts.length ≤ 50 := hT.2.1
  have key : ∀ l : List Nat, (∀ j ∈ l, j < ts.length) → (l.map fun j => (canonN ts but f j sd).size).sum ≤ 3500000000 * l.length := by
    intro l
    induction l with
    | nil => intro _; simp
    | cons x l ih =>
      intro hl
      have h1 := canon_size hT hz but f x sd (hl x (by simp))
      have h2 := endN_le (hl x (by simp))
      have h3 : 70000000 * (endN ts x - x) ≤ 70000000 * 50 := Nat.mul_le_mul_left _ (by omega)
      have h4 := ih (fun y hy => hl y (by simp [hy]))
      rw [List.map_cons, List.sum_cons, List.length_cons]
      omega
  have := key l hl
  omega

end Go.Proofs.YtmghipjpgoghlaaGreat
