/- Contracts of spec.Escaped and impl.Escaped: both write what escapedL says. Contracts of what a token is shown as, of the specification. The tokens of a tree (plain mathematics). -/
import Derived.Test.YtmghipjpgoghlaaGreatRows
import Derived.Test.YtmghipjpgoghlaaGreatM6
import Derived.Test.YtmghipjpgoghlaaGreatM1
import Derived.Test.YtmghipjpgoghlaaGreatM7
import Derived.Test.YtmghipjpgoghlaaGreatM15
import Derived.Test.YtmghipjpgoghlaaGreatM9
import Derived.WalkKit
namespace Go.Proofs.YtmghipjpgoghlaaGreat
open Go.RowKit

/-- One round of the builder's loop. -/
theorem esc_round {q : Bool} {s : ByteArray} {k : Nat} {w1 : World} {B : Nat} (hlt : k < s.size)
    (h : Lib.IsBuilder 150 5 B B (Lib.byteCells (escL q (s.data.toList.take k)) ++ Lib.strCells ⟨(escB q s[k]).toArray⟩) w1) :
    Lib.IsBuilder 150 5 B B (Lib.byteCells (escL q (s.data.toList.take (k + 1)))) w1 := by
  rw [take_snocE s k hlt, escL_snoc, byteCells_app, ← strCells_eq (escB q s[k])]
  exact h

theorem len_esc (q : Bool) (s : ByteArray) (k : Nat) (hk : k ≤ s.size) : (Lib.byteCells (escL q (s.data.toList.take k))).length ≤ 6 * s.size := by
  rw [Lib.byteCells_length]
  have h := escL_le q (s.data.toList.take k)
  have h2 : (s.data.toList.take k).length ≤ k := List.length_take_le _ _
  omega

theorem size_esc (q : Bool) (c : UInt8) : (⟨(escB q c).toArray⟩ : ByteArray).size ≤ 6 := by
  have := escB_le q c
  simpa [ByteArray.size] using this

set_option maxRecDepth 100000 in
set_option maxHeartbeats 1000000 in
theorem c_impl_Escaped_no (s : ByteArray) (q : Bool) (w : World) (h0 : s.size ≤ 1048576) (hp : plainL s.data.toList = false) :
    Calls Tryz.prog 72 #[.string s, .bool q] w fun e w' => e = .returned (.string ⟨(escapedL q s.data.toList).toArray⟩) ∧ Below w.heap.size w w' := by
  have e : escapedL q s.data.toList = [] := by simp [escapedL, hp]
  rw [e]
  go_enter Tryz.func72, Tryz.ntmps72
  go_wp2_with (go_at_call 117; refine (c_impl_PlainOk _ _ (by unfold maxLen; omega)).mono ?_; rintro e w' ⟨rfl, rfl⟩)
  go_ret
  exact ⟨rfl, Below.refl _ _⟩

set_option maxRecDepth 100000 in
set_option maxHeartbeats 1000000 in
theorem c_impl_Escaped_text (s : ByteArray) (w : World) (h0 : s.size ≤ 1048576) (hp : plainL s.data.toList = true) :
    Calls Tryz.prog 72 #[.string s, .bool false] w fun e w' => e = .returned (.string ⟨(escapedL false s.data.toList).toArray⟩) ∧ Below w.heap.size w w' := by
  have e : escapedL false s.data.toList = escL false s.data.toList := by simp [escapedL, hp]
  rw [e]; clear e
  go_enter Tryz.func72, Tryz.ntmps72
  go_wp2_with (go_at_call 117; refine (c_impl_PlainOk _ _ (by unfold maxLen; omega)).mono ?_; rintro e w' ⟨rfl, rfl⟩)
  go_loopw [14] (fun i wr => ∃ k : Nat, k ≤ s.size ∧ i = .int .i64 k ∧ Lib.IsBuilder 150 5 w'.heap.size w'.heap.size (Lib.byteCells (escL false (s.data.toList.take k))) wr ∧ Below w'.heap.size w' wr) (fun i _ => s.size - (intOf i).toNat)
  case atStart => exact ⟨0, Nat.zero_le _, rfl, Lib.fresh_isBuilder 150 5 _, (Below.refl _ _).alloc (Nat.le_refl _) _⟩
  case round =>
    obtain ⟨k, hk, rfl, hI, hB⟩ := hrel
    by_cases hlt : k < s.size
    · have hsz := hB.size
      have hl := len_esc false s k hk
      have h6 := size_esc false s[k]
      have HI : Hid (Lib.IsBuilder 150 5 w'.heap.size w'.heap.size (Lib.byteCells (escL false (s.data.toList.take k))) wr) := hI
      clear hI
      go_wp2_with (first
        | (go_at_call 118; refine (c__impl_sign__inText s[k] _).mono ?_; rintro e w1 ⟨rfl, hb1⟩)
        | (go_at_call 114; refine (writeString _ _ _ _ _ (isBuilder_below HI.out hb1) (by omega) (by have := hb1.size; omega)).mono ?_; rintro e w2 ⟨rfl, hI2, hb2, _⟩))
      go_roundw
      case rel => exact ⟨k + 1, by omega, by go_num, esc_round hlt hI2, hB.trans ((hb1.mono hsz).trans hb2)⟩
      case measure => simp [intOf]; omega
    · have hk' : s.data.toList.take k = s.data.toList := plainL_full s k hlt
      rw [hk'] at hI
      have hsz := hB.size
      go_wp2_with (go_at_call 116; refine (Tryz.Builder_String_any _ _ _ _ hI hsz).mono ?_; rintro e w2 ⟨rfl, hb2⟩)
      go_ret
      exact ⟨rfl, hB.trans hb2⟩
set_option maxRecDepth 100000 in
set_option maxHeartbeats 1000000 in
theorem c_impl_Escaped_quot (s : ByteArray) (w : World) (h0 : s.size ≤ 1048576) (hp : plainL s.data.toList = true) :
    Calls Tryz.prog 72 #[.string s, .bool true] w fun e w' => e = .returned (.string ⟨(escapedL true s.data.toList).toArray⟩) ∧ Below w.heap.size w w' := by
  have e : escapedL true s.data.toList = escL true s.data.toList := by simp [escapedL, hp]
  rw [e]; clear e
  go_enter Tryz.func72, Tryz.ntmps72
  go_wp2_with (go_at_call 117; refine (c_impl_PlainOk _ _ (by unfold maxLen; omega)).mono ?_; rintro e w' ⟨rfl, rfl⟩)
  go_loopw [14] (fun i wr => ∃ k : Nat, k ≤ s.size ∧ i = .int .i64 k ∧ Lib.IsBuilder 150 5 w'.heap.size w'.heap.size (Lib.byteCells (escL true (s.data.toList.take k))) wr ∧ Below w'.heap.size w' wr) (fun i _ => s.size - (intOf i).toNat)
  case atStart => exact ⟨0, Nat.zero_le _, rfl, Lib.fresh_isBuilder 150 5 _, (Below.refl _ _).alloc (Nat.le_refl _) _⟩
  case round =>
    obtain ⟨k, hk, rfl, hI, hB⟩ := hrel
    by_cases hlt : k < s.size
    · have hsz := hB.size
      have hl := len_esc true s k hk
      have h6 := size_esc true s[k]
      have HI : Hid (Lib.IsBuilder 150 5 w'.heap.size w'.heap.size (Lib.byteCells (escL true (s.data.toList.take k))) wr) := hI
      clear hI
      go_wp2_with (first
        | (go_at_call 119; refine (c__impl_sign__inQuotes s[k] _).mono ?_; rintro e w1 ⟨rfl, hb1⟩)
        | (go_at_call 114; refine (writeString _ _ _ _ _ (isBuilder_below HI.out hb1) (by omega) (by have := hb1.size; omega)).mono ?_; rintro e w2 ⟨rfl, hI2, hb2, _⟩))
      go_roundw
      case rel => exact ⟨k + 1, by omega, by go_num, esc_round hlt hI2, hB.trans ((hb1.mono hsz).trans hb2)⟩
      case measure => simp [intOf]; omega
    · have hk' : s.data.toList.take k = s.data.toList := plainL_full s k hlt
      rw [hk'] at hI
      have hsz := hB.size
      go_wp2_with (go_at_call 116; refine (Tryz.Builder_String_any _ _ _ _ hI hsz).mono ?_; rintro e w2 ⟨rfl, hb2⟩)
      go_ret
      exact ⟨rfl, hB.trans hb2⟩

theorem own_step {q : Bool} {s : ByteArray} {k : Nat} {w1 : World} {B n : Nat} {v : Value} {xs : List Value} {l : List UInt8} (hlt : k < s.size) (hl : escB q s[k] = l) (hn : n = l.length) (hx : xs = Lib.byteCells l)
    (h : w1.ownsRow B 5 1 v ((escL q (s.data.toList.take k)).length + n) (Lib.byteCells (escL q (s.data.toList.take k)) ++ xs)) :
    w1.ownsRow B 5 1 v (escL q (s.data.toList.take (k + 1))).length (Lib.byteCells (escL q (s.data.toList.take (k + 1)))) := by
  rw [take_snocE s k hlt, escL_snoc, byteCells_app, List.length_append, hl, ← hn, ← hx]
  exact h

theorem len_esc' (q : Bool) (s : ByteArray) (k : Nat) (hk : k ≤ s.size) : (escL q (s.data.toList.take k)).length ≤ 6 * s.size := by
  have h := escL_le q (s.data.toList.take k)
  have h2 : (s.data.toList.take k).length ≤ k := List.length_take_le _ _
  omega

theorem info5E : (Tryz.prog.info? 5).map (fun i => (i.zero, i.size, i.bytes)) = some (some (.int .u8 0), 1, 1) := by kernel_rfl

set_option maxRecDepth 100000 in
set_option maxHeartbeats 1000000 in
theorem c_spec_Escaped_no (s : ByteArray) (q : Bool) (w : World) (h0 : s.size ≤ 1048576) (hp : plainL s.data.toList = false) :
    Calls Tryz.prog 77 #[.string s, .bool q] w fun e w' => e = .returned (.string ⟨(escapedL q s.data.toList).toArray⟩) ∧ Below w.heap.size w w' := by
  have e : escapedL q s.data.toList = [] := by simp [escapedL, hp]
  rw [e]
  go_enter Tryz.func77, Tryz.ntmps77
  go_wp2_with (go_at_call 89; refine (c_spec_PlainOk _ _ (by unfold maxLen; omega)).mono ?_; rintro e w' ⟨rfl, rfl⟩)
  go_ret
  exact ⟨rfl, Below.refl _ _⟩

theorem one_cellE (w : World) (v : Value) : ∀ j u, [v][j]? = some u → (w.alloc (.cells #[v] 5)).cell? ((⟨w.heap.size, 0, none⟩ : Addr).add j) = some u := by
  intro j u hj
  match j, hj with
  | 0, hj => simp at hj; subst hj; simp [Addr.add]

theorem one_one (n : Int) : ∀ u ∈ [Value.int .u8 n], u.oneCell' = true := by
  intro u hu; simp at hu; subst hu; rfl

set_option maxRecDepth 100000 in
set_option maxHeartbeats 4000000 in
theorem c_spec_Escaped_text (s : ByteArray) (w : World) (h0 : s.size ≤ 1048576) (hp : plainL s.data.toList = true) :
    Calls Tryz.prog 77 #[.string s, .bool false] w fun e w' => e = .returned (.string ⟨(escapedL false s.data.toList).toArray⟩) ∧ Below w.heap.size w w' := by
  have e : escapedL false s.data.toList = escL false s.data.toList := by simp [escapedL, hp]
  rw [e]; clear e
  obtain ⟨i0, hi, hz0, hz1, hz2⟩ := info_parts info5E
  go_enter Tryz.func77, Tryz.ntmps77
  go_wp2_with (go_at_call 89; refine (c_spec_PlainOk _ _ (by unfold maxLen; omega)).mono ?_; rintro e w' ⟨rfl, rfl⟩)
  clear hp
  go_loopw [5, 6] (fun v i wr => ∃ k : Nat, k ≤ s.size ∧ i = .int .i64 k ∧ wr.ownsRow w'.heap.size 5 1 v (escL false (s.data.toList.take k)).length (Lib.byteCells (escL false (s.data.toList.take k))) ∧ Below w'.heap.size w' wr) (fun _ i _ => s.size - (intOf i).toNat)
  case atStart => exact ⟨0, Nat.zero_le _, rfl, World.ownsRow_made _ _ _ (Nat.le_refl _) (by decide) rfl, (Below.refl _ _).alloc (Nat.le_refl _) _⟩
  case round =>
    obtain ⟨k, hk, rfl, hown, hB⟩ := hrel
    have hsz := hB.size
    by_cases hlt : k < s.size
    · have hl := len_esc' false s k hk
      have cases : (s[k].toNat : Int) = 38 ∨ (s[k].toNat : Int) = 60 ∨ (s[k].toNat : Int) = 62 ∨ (s[k].toNat : Int) = 34 ∨ (¬ (s[k].toNat : Int) = 38 ∧ ¬ (s[k].toNat : Int) = 60 ∧ ¬ (s[k].toNat : Int) = 62 ∧ ¬ (s[k].toNat : Int) = 34) := by omega
      rcases cases with h | h | h | h | h
      · have g0 : (s[k].toNat : Int) ≤ 38 := by omega
        have g1 : (38 : Int) ≤ s[k].toNat := by omega
        have he : escB false s[k] = [38, 97, 109, 112, 59] := by unfold escB; simp [show s[k].toNat = 38 by omega]
        have HE : Hid (escB false s[k] = [38, 97, 109, 112, 59]) := he
        clear he h
        go_wp2_with (at_builtin; refine Lib.wpList_append_own_string _ rfl _ _ 22 9 rfl w'.heap.size 5 i0 Tryz.underlying22 Tryz.underlying9 hi hz0 hz1 hz2 _ _ _ rfl hown ⟨#[38, 97, 109, 112, 59]⟩ rfl (show _ + 5 ≤ _ by unfold maxLen; omega) (show _ + 5 ≤ _ by omega) hsz ?_)
        intro v' w1 hown' hgrow _
        have R := own_step (q := false) hlt HE.out rfl rfl hown'
        have hB1 := hB.grown hgrow hsz (fun k hk => (hown.lt k hk).1)
        clear hown' hgrow hown
        go_wp2
        go_roundw
        case rel => exact ⟨k + 1, by omega, by go_num, R, hB1⟩
        case measure => simp [intOf]; omega
      · have g0 : (s[k].toNat : Int) ≤ 60 := by omega
        have g1 : (60 : Int) ≤ s[k].toNat := by omega
        have he : escB false s[k] = [38, 108, 116, 59] := by unfold escB; simp [show s[k].toNat = 60 by omega]
        have HE : Hid (escB false s[k] = [38, 108, 116, 59]) := he
        clear he h
        go_wp2_with (at_builtin; refine Lib.wpList_append_own_string _ rfl _ _ 22 9 rfl w'.heap.size 5 i0 Tryz.underlying22 Tryz.underlying9 hi hz0 hz1 hz2 _ _ _ rfl hown ⟨#[38, 108, 116, 59]⟩ rfl (show _ + 4 ≤ _ by unfold maxLen; omega) (show _ + 4 ≤ _ by omega) hsz ?_)
        intro v' w1 hown' hgrow _
        have R := own_step (q := false) hlt HE.out rfl rfl hown'
        have hB1 := hB.grown hgrow hsz (fun k hk => (hown.lt k hk).1)
        clear hown' hgrow hown
        go_wp2
        go_roundw
        case rel => exact ⟨k + 1, by omega, by go_num, R, hB1⟩
        case measure => simp [intOf]; omega
      · have g0 : (s[k].toNat : Int) ≤ 62 := by omega
        have g1 : (62 : Int) ≤ s[k].toNat := by omega
        have he : escB false s[k] = [38, 103, 116, 59] := by unfold escB; simp [show s[k].toNat = 62 by omega]
        have HE : Hid (escB false s[k] = [38, 103, 116, 59]) := he
        clear he h
        go_wp2_with (at_builtin; refine Lib.wpList_append_own_string _ rfl _ _ 22 9 rfl w'.heap.size 5 i0 Tryz.underlying22 Tryz.underlying9 hi hz0 hz1 hz2 _ _ _ rfl hown ⟨#[38, 103, 116, 59]⟩ rfl (show _ + 4 ≤ _ by unfold maxLen; omega) (show _ + 4 ≤ _ by omega) hsz ?_)
        intro v' w1 hown' hgrow _
        have R := own_step (q := false) hlt HE.out rfl rfl hown'
        have hB1 := hB.grown hgrow hsz (fun k hk => (hown.lt k hk).1)
        clear hown' hgrow hown
        go_wp2
        go_roundw
        case rel => exact ⟨k + 1, by omega, by go_num, R, hB1⟩
        case measure => simp [intOf]; omega
      · have g0 : (s[k].toNat : Int) ≤ 34 := by omega
        have g1 : (34 : Int) ≤ s[k].toNat := by omega
        have he : escB false s[k] = [s[k]] := by unfold escB; simp [show s[k].toNat = 34 by omega]
        have HN : Hid ((s[k].toNat : Int) = 34) := h
        have HE : Hid (escB false s[k] = [s[k]]) := he
        clear he h
        go_wp2_with (at_builtin; refine wpList_append_own _ rfl _ _ 22 rfl w'.heap.size 5 i0 (.int .u8 0) 1 1 Tryz.underlying22 hi hz0 hz1 hz2 rfl (by decide) _ _ _ rfl (hown.alloc _) ⟨wr.heap.size, 0, none⟩ 1 1 [.int .u8 34] rfl rfl (one_cellE _ _) (one_one _) (by unfold maxLen; omega) (by omega) (by simp; omega) ?_)
        intro v' w1 hown' hgrow _
        have R := own_step (q := false) hlt HE.out rfl (by simp [Lib.byteCells, HN.out]) hown'
        have hB1 := (hB.alloc hsz _).grown hgrow (by simp; omega) (fun k hk => (hown.lt k hk).1)
        clear hown' hgrow hown
        go_wp2
        go_roundw
        case rel => exact ⟨k + 1, by omega, by go_num, R, hB1⟩
        case measure => simp [intOf]; omega
      · obtain ⟨x0, x1, x2, x3⟩ := h
        have he : escB false s[k] = [s[k]] := by unfold escB; simp [show ¬ s[k].toNat = 38 by omega, show ¬ s[k].toNat = 60 by omega, show ¬ s[k].toNat = 62 by omega, show ¬ s[k].toNat = 34 by omega]
        have HE : Hid (escB false s[k] = [s[k]]) := he
        clear he
        go_wp2_with (at_builtin; refine wpList_append_own _ rfl _ _ 22 rfl w'.heap.size 5 i0 (.int .u8 0) 1 1 Tryz.underlying22 hi hz0 hz1 hz2 rfl (by decide) _ _ _ rfl (hown.alloc _) ⟨wr.heap.size, 0, none⟩ 1 1 [.int .u8 s[k].toNat] rfl rfl (one_cellE _ _) (one_one _) (by unfold maxLen; omega) (by omega) (by simp; omega) ?_)
        intro v' w1 hown' hgrow _
        have R := own_step (q := false) hlt HE.out rfl rfl hown'
        have hB1 := (hB.alloc hsz _).grown hgrow (by simp; omega) (fun k hk => (hown.lt k hk).1)
        clear hown' hgrow hown
        go_wp2
        go_roundw
        case rel => exact ⟨k + 1, by omega, by go_num, R, hB1⟩
        case measure => simp [intOf]; omega
    · have hk' : s.data.toList.take k = s.data.toList := plainL_full s k hlt
      rw [hk'] at hown
      have hr := run_str_own (P := Tryz.prog) (src := 22) (dst := 9) Tryz.underlying22 Tryz.underlying5 Tryz.underlying9 hown
      clear hown hk'
      go_wp2
      go_ret
      exact ⟨rfl, hB⟩

set_option maxRecDepth 100000 in
set_option maxHeartbeats 4000000 in
theorem c_spec_Escaped_quot (s : ByteArray) (w : World) (h0 : s.size ≤ 1048576) (hp : plainL s.data.toList = true) :
    Calls Tryz.prog 77 #[.string s, .bool true] w fun e w' => e = .returned (.string ⟨(escapedL true s.data.toList).toArray⟩) ∧ Below w.heap.size w w' := by
  have e : escapedL true s.data.toList = escL true s.data.toList := by simp [escapedL, hp]
  rw [e]; clear e
  obtain ⟨i0, hi, hz0, hz1, hz2⟩ := info_parts info5E
  go_enter Tryz.func77, Tryz.ntmps77
  go_wp2_with (go_at_call 89; refine (c_spec_PlainOk _ _ (by unfold maxLen; omega)).mono ?_; rintro e w' ⟨rfl, rfl⟩)
  clear hp
  go_loopw [5, 6] (fun v i wr => ∃ k : Nat, k ≤ s.size ∧ i = .int .i64 k ∧ wr.ownsRow w'.heap.size 5 1 v (escL true (s.data.toList.take k)).length (Lib.byteCells (escL true (s.data.toList.take k))) ∧ Below w'.heap.size w' wr) (fun _ i _ => s.size - (intOf i).toNat)
  case atStart => exact ⟨0, Nat.zero_le _, rfl, World.ownsRow_made _ _ _ (Nat.le_refl _) (by decide) rfl, (Below.refl _ _).alloc (Nat.le_refl _) _⟩
  case round =>
    obtain ⟨k, hk, rfl, hown, hB⟩ := hrel
    have hsz := hB.size
    by_cases hlt : k < s.size
    · have hl := len_esc' true s k hk
      have cases : (s[k].toNat : Int) = 38 ∨ (s[k].toNat : Int) = 60 ∨ (s[k].toNat : Int) = 62 ∨ (s[k].toNat : Int) = 34 ∨ (¬ (s[k].toNat : Int) = 38 ∧ ¬ (s[k].toNat : Int) = 60 ∧ ¬ (s[k].toNat : Int) = 62 ∧ ¬ (s[k].toNat : Int) = 34) := by omega
      rcases cases with h | h | h | h | h
      · have g0 : (s[k].toNat : Int) ≤ 38 := by omega
        have g1 : (38 : Int) ≤ s[k].toNat := by omega
        have he : escB true s[k] = [38, 97, 109, 112, 59] := by unfold escB; simp [show s[k].toNat = 38 by omega]
        have HE : Hid (escB true s[k] = [38, 97, 109, 112, 59]) := he
        clear he h
        go_wp2_with (at_builtin; refine Lib.wpList_append_own_string _ rfl _ _ 22 9 rfl w'.heap.size 5 i0 Tryz.underlying22 Tryz.underlying9 hi hz0 hz1 hz2 _ _ _ rfl hown ⟨#[38, 97, 109, 112, 59]⟩ rfl (show _ + 5 ≤ _ by unfold maxLen; omega) (show _ + 5 ≤ _ by omega) hsz ?_)
        intro v' w1 hown' hgrow _
        have R := own_step (q := true) hlt HE.out rfl rfl hown'
        have hB1 := hB.grown hgrow hsz (fun k hk => (hown.lt k hk).1)
        clear hown' hgrow hown
        go_wp2
        go_roundw
        case rel => exact ⟨k + 1, by omega, by go_num, R, hB1⟩
        case measure => simp [intOf]; omega
      · have g0 : (s[k].toNat : Int) ≤ 60 := by omega
        have g1 : (60 : Int) ≤ s[k].toNat := by omega
        have he : escB true s[k] = [38, 108, 116, 59] := by unfold escB; simp [show s[k].toNat = 60 by omega]
        have HE : Hid (escB true s[k] = [38, 108, 116, 59]) := he
        clear he h
        go_wp2_with (at_builtin; refine Lib.wpList_append_own_string _ rfl _ _ 22 9 rfl w'.heap.size 5 i0 Tryz.underlying22 Tryz.underlying9 hi hz0 hz1 hz2 _ _ _ rfl hown ⟨#[38, 108, 116, 59]⟩ rfl (show _ + 4 ≤ _ by unfold maxLen; omega) (show _ + 4 ≤ _ by omega) hsz ?_)
        intro v' w1 hown' hgrow _
        have R := own_step (q := true) hlt HE.out rfl rfl hown'
        have hB1 := hB.grown hgrow hsz (fun k hk => (hown.lt k hk).1)
        clear hown' hgrow hown
        go_wp2
        go_roundw
        case rel => exact ⟨k + 1, by omega, by go_num, R, hB1⟩
        case measure => simp [intOf]; omega
      · have g0 : (s[k].toNat : Int) ≤ 62 := by omega
        have g1 : (62 : Int) ≤ s[k].toNat := by omega
        have he : escB true s[k] = [s[k]] := by unfold escB; simp [show s[k].toNat = 62 by omega]
        have HN : Hid ((s[k].toNat : Int) = 62) := h
        have HE : Hid (escB true s[k] = [s[k]]) := he
        clear he h
        go_wp2_with (at_builtin; refine wpList_append_own _ rfl _ _ 22 rfl w'.heap.size 5 i0 (.int .u8 0) 1 1 Tryz.underlying22 hi hz0 hz1 hz2 rfl (by decide) _ _ _ rfl (hown.alloc _) ⟨wr.heap.size, 0, none⟩ 1 1 [.int .u8 62] rfl rfl (one_cellE _ _) (one_one _) (by unfold maxLen; omega) (by omega) (by simp; omega) ?_)
        intro v' w1 hown' hgrow _
        have R := own_step (q := true) hlt HE.out rfl (by simp [Lib.byteCells, HN.out]) hown'
        have hB1 := (hB.alloc hsz _).grown hgrow (by simp; omega) (fun k hk => (hown.lt k hk).1)
        clear hown' hgrow hown
        go_wp2
        go_roundw
        case rel => exact ⟨k + 1, by omega, by go_num, R, hB1⟩
        case measure => simp [intOf]; omega
      · have g0 : (s[k].toNat : Int) ≤ 34 := by omega
        have g1 : (34 : Int) ≤ s[k].toNat := by omega
        have he : escB true s[k] = [38, 113, 117, 111, 116, 59] := by unfold escB; simp [show s[k].toNat = 34 by omega]
        have HE : Hid (escB true s[k] = [38, 113, 117, 111, 116, 59]) := he
        clear he h
        go_wp2_with (at_builtin; refine Lib.wpList_append_own_string _ rfl _ _ 22 9 rfl w'.heap.size 5 i0 Tryz.underlying22 Tryz.underlying9 hi hz0 hz1 hz2 _ _ _ rfl hown ⟨#[38, 113, 117, 111, 116, 59]⟩ rfl (show _ + 6 ≤ _ by unfold maxLen; omega) (show _ + 6 ≤ _ by omega) hsz ?_)
        intro v' w1 hown' hgrow _
        have R := own_step (q := true) hlt HE.out rfl rfl hown'
        have hB1 := hB.grown hgrow hsz (fun k hk => (hown.lt k hk).1)
        clear hown' hgrow hown
        go_wp2
        go_roundw
        case rel => exact ⟨k + 1, by omega, by go_num, R, hB1⟩
        case measure => simp [intOf]; omega
      · obtain ⟨x0, x1, x2, x3⟩ := h
        have he : escB true s[k] = [s[k]] := by unfold escB; simp [show ¬ s[k].toNat = 38 by omega, show ¬ s[k].toNat = 60 by omega, show ¬ s[k].toNat = 62 by omega, show ¬ s[k].toNat = 34 by omega]
        have HE : Hid (escB true s[k] = [s[k]]) := he
        clear he
        go_wp2_with (at_builtin; refine wpList_append_own _ rfl _ _ 22 rfl w'.heap.size 5 i0 (.int .u8 0) 1 1 Tryz.underlying22 hi hz0 hz1 hz2 rfl (by decide) _ _ _ rfl (hown.alloc _) ⟨wr.heap.size, 0, none⟩ 1 1 [.int .u8 s[k].toNat] rfl rfl (one_cellE _ _) (one_one _) (by unfold maxLen; omega) (by omega) (by simp; omega) ?_)
        intro v' w1 hown' hgrow _
        have R := own_step (q := true) hlt HE.out rfl rfl hown'
        have hB1 := (hB.alloc hsz _).grown hgrow (by simp; omega) (fun k hk => (hown.lt k hk).1)
        clear hown' hgrow hown
        go_wp2
        go_roundw
        case rel => exact ⟨k + 1, by omega, by go_num, R, hB1⟩
        case measure => simp [intOf]; omega
    · have hk' : s.data.toList.take k = s.data.toList := plainL_full s k hlt
      rw [hk'] at hown
      have hr := run_str_own (P := Tryz.prog) (src := 22) (dst := 9) Tryz.underlying22 Tryz.underlying5 Tryz.underlying9 hown
      clear hown hk'
      go_wp2
      go_ret
      exact ⟨rfl, hB⟩

theorem c_spec_Escaped (s : ByteArray) (q : Bool) (w : World) (h0 : s.size ≤ 1048576) :
    Calls Tryz.prog 77 #[.string s, .bool q] w fun e w' => e = .returned (.string ⟨(escapedL q s.data.toList).toArray⟩) ∧ Below w.heap.size w w' := by
  cases hp : plainL s.data.toList
  · exact c_spec_Escaped_no s q w h0 hp
  · cases q
    · exact c_spec_Escaped_text s w h0 hp
    · exact c_spec_Escaped_quot s w h0 hp

theorem c_impl_Escaped (s : ByteArray) (q : Bool) (w : World) (h0 : s.size ≤ 1048576) :
    Calls Tryz.prog 72 #[.string s, .bool q] w fun e w' => e = .returned (.string ⟨(escapedL q s.data.toList).toArray⟩) ∧ Below w.heap.size w w' := by
  cases hp : plainL s.data.toList
  · exact c_impl_Escaped_no s q w h0 hp
  · cases q
    · exact c_impl_Escaped_text s w h0 hp
    · exact c_impl_Escaped_quot s w h0 hp

end Go.Proofs.YtmghipjpgoghlaaGreat

namespace Go.Proofs.YtmghipjpgoghlaaGreat
open Go.RowKit
set_option linter.unusedVariables false
set_option linter.unusedSimpArgs false

/-- A text as it is escaped. -/
def escS (q : Bool) (s : ByteArray) : ByteArray := ⟨(escapedL q s.data.toList).toArray⟩

/-- An attr as it is shown. -/
def atS (x : At) : ByteArray := (((((⟨#[32]⟩ : ByteArray) ++ x.name) ++ ⟨#[61, 34]⟩) ++ escS true x.value) ++ ⟨#[34]⟩)

/-- Attrs as they are shown, behind what stands ahead. -/
def atsS : List At → ByteArray → ByteArray
  | [], s => s
  | x :: l, s => atsS l (s ++ atS x)

theorem atsS_snoc (l : List At) (x : At) (s : ByteArray) : atsS (l ++ [x]) s = atsS l s ++ atS x := by
  induction l generalizing s with
  | nil => rfl
  | cons y l ih => exact ih _

theorem escS_size (q : Bool) (s : ByteArray) : (escS q s).size ≤ 6 * s.size := by
  have e : (escS q s).size = (escapedL q s.data.toList).length := by unfold escS; simp [ByteArray.size]
  have e2 : s.size = s.data.toList.length := rfl
  rw [e, e2]
  unfold escapedL
  split
  · exact escL_le q _
  · simp

theorem atS_size (x : At) : (atS x).size ≤ 4 + x.name.size + 6 * x.value.size := by
  have h := escS_size true x.value
  have e1 : (⟨#[32]⟩ : ByteArray).size = 1 := rfl
  have e2 : (⟨#[61, 34]⟩ : ByteArray).size = 2 := rfl
  have e3 : (⟨#[34]⟩ : ByteArray).size = 1 := rfl
  unfold atS
  simp only [ByteArray.size_append, e1, e2, e3]
  omega

set_option maxHeartbeats 1000000 in
theorem cL7Attr (x : At) (w : World) (h1 : x.name.size ≤ 1048576) (h2 : x.value.size ≤ 1048576) :
    Calls Tryz.prog 81 #[.agg #[.string x.name, .string x.value]] w fun e w' => e = .returned (.string (atS x)) ∧ Below w.heap.size w w' := by
  have C := fun w => c_spec_Escaped x.value true w h2
  have hz := escS_size true x.value
  have e0 : atS x = (((((⟨#[32]⟩ : ByteArray) ++ x.name) ++ ⟨#[61, 34]⟩) ++ escS true x.value) ++ ⟨#[34]⟩) := rfl
  rw [e0]
  have e1 : (⟨(escapedL true x.value.data.toList).toArray⟩ : ByteArray) = escS true x.value := rfl
  rw [e1] at C
  obtain ⟨E, hE⟩ : ∃ E, escS true x.value = E := ⟨_, rfl⟩
  rw [hE] at C hz ⊢
  clear e0 e1 hE
  generalize x.name = n at *
  generalize x.value = v at *
  have HB0 := hid ((Below.refl w.heap.size w).alloc (Nat.le_refl _) (.cells #[.string n, .string v] 42))
  have M := hid (heap_alloc_new w (.cells #[.string n, .string v] 42))
  obtain ⟨W, hW⟩ : ∃ W, w.alloc (.cells #[.string n, .string v] 42) = W := ⟨_, rfl⟩
  rw [hW] at HB0 M
  have k1 : W.cell? ⟨w.heap.size, 0, none⟩ = some (.string n) := by rw [Lib.cell_of_heap M.out]; rfl
  have k2 : W.cell? ⟨w.heap.size, 0 + 1, none⟩ = some (.string v) := by rw [Lib.cell_of_heap M.out]; rfl
  obtain ⟨d1, d2⟩ := pair_bw (lt_of_heap M.out) k1 k2
  simp only [Nat.zero_add] at d2
  clear k1 k2
  have HNB := hid (bw_any W)
  go_enter Tryz.func81, Tryz.ntmps81
  go_wp2_with fail
  haveI := HNB.out
  refine wp_region_below (by kernel_rfl) (by kernel_rfl) (Below.refl W.heap.size W) ?_
  repeat (go_big_quiet_step ((go_at_call 77; exact calls_bw _ (C _))))
  refine wpQuiet_nil ?_
  intro _ hw'
  obtain ⟨⟨wq, hwq⟩, hw''⟩ := hw'
  subst hw''
  have HB2 := hid (bb HB0.out hwq)
  go_wp2_with fail
  go_ret
  exact ⟨rfl, HB2.out⟩

/-- A token as it is shown. -/
def showS (t : Tk) : ByteArray :=
  if t.kind = 2 then ((⟨#[60, 47]⟩ : ByteArray) ++ t.name) ++ ⟨#[62]⟩
  else if t.kind = 3 then escS false t.text
  else atsS t.attrs ((⟨#[60]⟩ : ByteArray) ++ t.name) ++ ⟨#[62]⟩

theorem atsS_size (l : List At) (s : ByteArray) (hz : AtSz 1048576 l) : (atsS l s).size ≤ s.size + l.length * 7340036 := by
  induction l generalizing s with
  | nil => simp [atsS]
  | cons x l ih =>
    have h1 := ih (s ++ atS x) (fun y hy => hz y (List.mem_cons_of_mem _ hy))
    have h2 := atS_size x
    have h3 := hz x List.mem_cons_self
    rw [ByteArray.size_append] at h1
    rw [List.length_cons]
    show (atsS l (s ++ atS x)).size ≤ _
    omega

theorem tokB_len {t : Tk} (h : tokB t = true) : t.attrs.length ≤ 6 := by
  unfold tokB at h
  split at h
  · simp only [Bool.and_eq_true] at h
    have h2 := h.2.1
    by_cases k : AttrsOk t.attrs
    · exact k.1
    · rw [attrsB_f k] at h2
      cases h2
  · split at h
    · simp only [Bool.and_eq_true, decide_eq_true_eq] at h
      omega
    · split at h
      · simp only [Bool.and_eq_true, decide_eq_true_eq] at h
        omega
      · cases h

/-- What ShowToken answers. -/
noncomputable def shownT (t : Tk) : ByteArray := if tokB t = true then showS t else ⟨#[]⟩

end Go.Proofs.YtmghipjpgoghlaaGreat

namespace Go.Proofs.YtmghipjpgoghlaaGreat
set_option linter.unusedVariables false

def nodeAt (ts : List Tk) (k : Nat) : Tk := match ts[k]? with | some t => t | none => ⟨0, ⟨#[]⟩, [], ⟨#[]⟩⟩

theorem nodeAt_at {ts : List Tk} {k : Nat} (h : k < ts.length) : nodeAt ts k = ts[k] := by unfold nodeAt; rw [List.getElem?_eq_getElem h]

/-- TkOpen, TkClose and TkText of a node. -/
def opT (t : Tk) : Tk := ⟨1, t.name, t.attrs, ⟨#[]⟩⟩
def clT (t : Tk) : Tk := ⟨2, t.name, [], ⟨#[]⟩⟩
def txT (t : Tk) : Tk := ⟨3, ⟨#[]⟩, [], t.text⟩

/-- The tokens of the node there and of all that it has. -/
def tokN (ts : List Tk) : Nat → Nat → List Tk
  | 0, _ => []
  | f + 1, k => if (nodeAt ts k).name.size = 0 then [txT (nodeAt ts k)] else opT (nodeAt ts k) :: ((kidsTo ts k (endN ts k)).flatMap (tokN ts f) ++ [clT (nodeAt ts k)])

theorem endN_stop {ts : List Tk} {k : Nat} (h : k < ts.length) : endN ts k = ts.length ∨ parI ts (endN ts k) < (k : Int) := by
  rcases Nat.lt_or_ge (endN ts k) ts.length with h' | h'
  · right
    by_cases q : parI ts (endN ts k) < (k : Int)
    · exact q
    · exfalso
      have hle := endN_le h
      have key : ∀ m, k + 1 + m ≤ ts.length → ((ts.drop (k + 1)).takeWhile fun t => decide ((k : Int) ≤ t.kind)).length = m → k + 1 + m < ts.length → parI ts (k + 1 + m) < (k : Int) := by
        intro m hm hl hlt
        have hsub := List.takeWhile_append_dropWhile (p := fun t : Tk => decide ((k : Int) ≤ t.kind)) (l := ts.drop (k + 1))
        have hd : m < (ts.drop (k + 1)).length := by rw [List.length_drop]; omega
        have e1 : (ts.drop (k + 1))[m] = ts[k + 1 + m] := List.getElem_drop ..
        have hne : ((ts.drop (k + 1)).dropWhile fun t => decide ((k : Int) ≤ t.kind)) ≠ [] := by
          intro e0
          have := congrArg List.length hsub
          rw [List.length_append, e0, hl, List.length_nil] at this
          omega
        have hhd := List.head_dropWhile_not (fun t : Tk => decide ((k : Int) ≤ t.kind)) hne
        have e2 : ((ts.drop (k + 1)).dropWhile fun t => decide ((k : Int) ≤ t.kind)).head hne = ts[k + 1 + m] := by
          rw [← e1, List.head_eq_getElem]
          have : (ts.drop (k + 1))[m]? = some (((ts.drop (k + 1)).dropWhile fun t => decide ((k : Int) ≤ t.kind))[0]'(List.length_pos_iff.2 hne)) := by
            conv => lhs; rw [← hsub]
            rw [List.getElem?_append_right (by omega), hl, Nat.sub_self, List.getElem?_eq_getElem (List.length_pos_iff.2 hne)]
          rw [List.getElem?_eq_getElem hd] at this
          exact (Option.some.inj this).symm
        rw [e2] at hhd
        rw [parI_at hlt]
        simpa using hhd
      exact q (key _ hle.2 rfl h')
  · left
    have := endN_le h
    omega

theorem endN_min {ts : List Tk} {k e : Nat} (hk : k < ts.length) (he : k < e) (hp : e < ts.length → parI ts e < (k : Int)) (hle : e ≤ ts.length) : endN ts k ≤ e := by
  rcases Nat.lt_or_ge e (endN ts k) with h | h
  · exfalso
    have h2 := endN_le hk
    have h3 := hp (by omega)
    have h4 : (k : Int) ≤ parI ts e := by
      have hm : e - (k + 1) < ((ts.drop (k + 1)).takeWhile fun t => decide ((k : Int) ≤ t.kind)).length := by unfold endN at h; omega
      have h5 := List.all_eq_true.1 (List.all_takeWhile (p := fun t : Tk => decide ((k : Int) ≤ t.kind)) (l := ts.drop (k + 1))) _ (List.getElem_mem hm)
      have e1 : ((ts.drop (k + 1)).takeWhile fun t => decide ((k : Int) ≤ t.kind))[e - (k + 1)] = (ts.drop (k + 1))[e - (k + 1)]'(by rw [List.length_drop]; omega) :=
        (List.takeWhile_prefix _).getElem hm
      rw [e1, List.getElem_drop] at h5
      have e2 : k + 1 + (e - (k + 1)) = e := by omega
      simp only [e2] at h5
      rw [parI_at (by omega)]
      simpa using h5
    omega
  · exact h

/-- Of a kid: it ends ahead of the next one, and within. -/
theorem kid_end {ts : List Tk} {k i : Nat} (hk : k < ts.length) (hi : k < i) (hie : i < endN ts k) : endN ts i ≤ endN ts k ∧ ∀ j, i < j → j < ts.length → parI ts j = (k : Int) → endN ts i ≤ j := by
  have hle := endN_le hk
  refine ⟨?_, fun j hj hjn hp => ?_⟩
  · rcases endN_stop hk with h | h
    · rw [h]
      exact (endN_le (by omega)).2
    · exact endN_min (by omega) hie (fun _ => by omega) hle.2
  · exact endN_min (by omega) hj (fun _ => by omega) (by omega)

theorem kids_len {ts : List Tk} {k : Nat} (L : Nat → Nat) (hk : k < ts.length) (hL : ∀ i, k < i → i < endN ts k → L i ≤ 2 * (endN ts i - i)) :
    ∀ e, k < e → e ≤ endN ts k → ∃ m, k + 1 ≤ m ∧ m ≤ endN ts k ∧ ((kidsTo ts k e).map L).sum ≤ 2 * (m - (k + 1)) ∧ ∀ j, e ≤ j → j < endN ts k → parI ts j = (k : Int) → m ≤ j := by
  have hle := endN_le hk
  intro e
  induction e with
  | zero => intro h; omega
  | succ e ih =>
    intro h1 h2
    by_cases he : e = k
    · subst he
      refine ⟨e + 1, Nat.le_refl _, h2, ?_, fun j hj _ _ => by omega⟩
      rw [kidsTo_first]
      simp
    · obtain ⟨m, m1, m2, m3, m4⟩ := ih (by omega) (by omega)
      rw [kidsTo_next (by omega)]
      by_cases q : parI ts e = (k : Int)
      · rw [if_pos q, List.map_append, List.sum_append]
        obtain ⟨q1, q2⟩ := kid_end hk (show k < e by omega) (by omega)
        have hm := m4 e (Nat.le_refl _) (by omega) q
        have hl := hL e (by omega) (by omega)
        have he2 := endN_le (ts := ts) (k := e) (by omega)
        refine ⟨endN ts e, by omega, q1, ?_, fun j hj hjn hp => q2 j (by omega) (by omega) hp⟩
        simp only [List.map_cons, List.map_nil, List.sum_cons, List.sum_nil]
        omega
      · rw [if_neg q, List.append_nil]
        exact ⟨m, m1, m2, m3, fun j hj hjn hp => m4 j (by omega) hjn hp⟩

theorem flatMap_len {α β : Type} (f : α → List β) (l : List α) : (l.flatMap f).length = (l.map fun x => (f x).length).sum := by
  rw [List.length_flatMap]

theorem tokN_len {ts : List Tk} : ∀ f k, k < ts.length → (tokN ts f k).length ≤ 2 * (endN ts k - k)
  | 0, k, h => by simp [tokN]
  | f + 1, k, h => by
    have hle := endN_le h
    unfold tokN
    split
    · simp; omega
    · obtain ⟨m, m1, m2, m3, _⟩ := kids_len (fun i => (tokN ts f i).length) h (fun i h1 h2 => tokN_len f i (by omega)) (endN ts k) hle.1 (Nat.le_refl _)
      simp only [List.length_cons, List.length_append, List.length_nil, flatMap_len]
      omega

theorem tokKids_len {ts : List Tk} (f : Nat) {k e : Nat} (h : k < ts.length) (h1 : k < e) (h2 : e ≤ endN ts k) : ((kidsTo ts k e).flatMap (tokN ts f)).length ≤ 2 * (endN ts k - (k + 1)) := by
  obtain ⟨m, m1, m2, m3, _⟩ := kids_len (fun i => (tokN ts f i).length) h (fun i h1 h2 => tokN_len f i (by have := endN_le h; omega)) e h1 h2
  rw [flatMap_len]
  omega

theorem tokN_sz {ts : List Tk} (hz : TksSz 1048576 ts) : ∀ f k, TksSz 1048576 (tokN ts f k)
  | 0, k => fun t ht => by simp [tokN] at ht
  | f + 1, k => by
    have hk : TkSz 1048576 (nodeAt ts k) := by
      by_cases h : k < ts.length
      · rw [nodeAt_at h]; exact hz _ (List.getElem_mem h)
      · unfold nodeAt
        rw [List.getElem?_eq_none (by omega)]
        exact ⟨Nat.zero_le _, Nat.zero_le _, fun x hx => absurd hx List.not_mem_nil, Nat.zero_le _⟩
    obtain ⟨z1, z2, z3, z4⟩ := hk
    intro t ht
    unfold tokN at ht
    split at ht
    · rw [List.mem_singleton] at ht
      subst ht
      exact ⟨Nat.zero_le _, Nat.zero_le _, fun x hx => absurd hx List.not_mem_nil, z4⟩
    · rcases List.mem_cons.1 ht with rfl | ht
      · exact ⟨z1, z2, z3, Nat.zero_le _⟩
      · rcases List.mem_append.1 ht with ht | ht
        · obtain ⟨i, _, hi⟩ := List.mem_flatMap.1 ht
          exact tokN_sz hz f i t hi
        · rw [List.mem_singleton] at ht
          subst ht
          exact ⟨z1, Nat.zero_le _, fun x hx => absurd hx List.not_mem_nil, Nat.zero_le _⟩

end Go.Proofs.YtmghipjpgoghlaaGreat
