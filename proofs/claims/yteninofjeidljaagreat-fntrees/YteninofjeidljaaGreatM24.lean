/- Contracts of spec.Escaped and impl.Escaped: both write what escapedL says. Contract of spec.Unescaped: it answers what unescL says. Contract of l7Tag of the specification: an opening tag. A row of tokens that grows: what is known of it. -/
import Derived.Test.YteninofjeidljaaGreatRows
import Derived.Test.YteninofjeidljaaGreatM5
import Derived.Test.YteninofjeidljaaGreatM1
import Derived.Test.YteninofjeidljaaGreatM10
import Derived.Test.YteninofjeidljaaGreatM11
import Derived.Test.YteninofjeidljaaGreatM13
import Derived.Test.YteninofjeidljaaGreatM14
import Derived.Test.YteninofjeidljaaGreatM3
import Derived.WalkKit
import Derived.Deep.QuietTactic
import Derived.BigQuiet
import Derived.Maps.AppendAt
namespace Go.Proofs.YteninofjeidljaaGreat

open Go.RowKit

/-- One round of the builder's loop. -/
theorem esc_round {q : Bool} {s : ByteArray} {k : Nat} {w1 : World} {B : Nat} (hlt : k < s.size)
    (h : Lib.IsBuilder 47 5 B B (Lib.byteCells (escL q (s.data.toList.take k)) ++ Lib.strCells ⟨(escB q s[k]).toArray⟩) w1) :
    Lib.IsBuilder 47 5 B B (Lib.byteCells (escL q (s.data.toList.take (k + 1)))) w1 := by
  rw [take_snocE s k hlt, escL_snoc, byteCells_app, ← strCells_eq (escB q s[k])]
  exact h

theorem len_esc (q : Bool) (s : ByteArray) (k : Nat) (hk : k ≤ s.size) : (Lib.byteCells (escL q (s.data.toList.take k))).length ≤ 6 * s.size := by
  rw [Lib.byteCells_length]
  have h := escL_le q (s.data.toList.take k)
  have h2 : (s.data.toList.take k).length ≤ k := List.length_take_le _ _
  omega

theorem size_esc (q : Bool) (c : UInt8) : (⟨(escB q c).toArray⟩ : ByteArray).size ≤ 6 := by
  have := escB_le q c
  simpa [ByteArray.size] using this

set_option maxRecDepth 100000 in
set_option maxHeartbeats 1000000 in
theorem c_impl_Escaped_no (s : ByteArray) (q : Bool) (w : World) (h0 : s.size ≤ 1048576) (hp : plainL s.data.toList = false) :
    Calls Tryz.prog 88 #[.string s, .bool q] w fun e w' => e = .returned (.string ⟨(escapedL q s.data.toList).toArray⟩) ∧ Below w.heap.size w w' := by
  have e : escapedL q s.data.toList = [] := by simp [escapedL, hp]
  rw [e]
  go_enter Tryz.func88, Tryz.ntmps88
  go_wp2_with (go_at_call 101; refine (c_impl_PlainOk _ _ (by unfold maxLen; omega)).mono ?_; rintro e w' ⟨rfl, rfl⟩)
  go_ret
  exact ⟨rfl, Below.refl _ _⟩

set_option maxRecDepth 100000 in
set_option maxHeartbeats 1000000 in
theorem c_impl_Escaped_text (s : ByteArray) (w : World) (h0 : s.size ≤ 1048576) (hp : plainL s.data.toList = true) :
    Calls Tryz.prog 88 #[.string s, .bool false] w fun e w' => e = .returned (.string ⟨(escapedL false s.data.toList).toArray⟩) ∧ Below w.heap.size w w' := by
  have e : escapedL false s.data.toList = escL false s.data.toList := by simp [escapedL, hp]
  rw [e]; clear e
  go_enter Tryz.func88, Tryz.ntmps88
  go_wp2_with (go_at_call 101; refine (c_impl_PlainOk _ _ (by unfold maxLen; omega)).mono ?_; rintro e w' ⟨rfl, rfl⟩)
  go_loopw [14] (fun i wr => ∃ k : Nat, k ≤ s.size ∧ i = .int .i64 k ∧ Lib.IsBuilder 47 5 w'.heap.size w'.heap.size (Lib.byteCells (escL false (s.data.toList.take k))) wr ∧ Below w'.heap.size w' wr) (fun i _ => s.size - (intOf i).toNat)
  case atStart => exact ⟨0, Nat.zero_le _, rfl, Lib.fresh_isBuilder 47 5 _, (Below.refl _ _).alloc (Nat.le_refl _) _⟩
  case round =>
    obtain ⟨k, hk, rfl, hI, hB⟩ := hrel
    by_cases hlt : k < s.size
    · have hsz := hB.size
      have hl := len_esc false s k hk
      have h6 := size_esc false s[k]
      have HI : Hid (Lib.IsBuilder 47 5 w'.heap.size w'.heap.size (Lib.byteCells (escL false (s.data.toList.take k))) wr) := hI
      clear hI
      go_wp2_with (first
        | (go_at_call 133; refine (c__impl_sign__inText s[k] _).mono ?_; rintro e w1 ⟨rfl, hb1⟩)
        | (go_at_call 31; refine (writeString _ _ _ _ _ (isBuilder_below HI.out hb1) (by omega) (by have := hb1.size; omega)).mono ?_; rintro e w2 ⟨rfl, hI2, hb2, _⟩))
      go_roundw
      case rel => exact ⟨k + 1, by omega, by go_num, esc_round hlt hI2, hB.trans ((hb1.mono hsz).trans hb2)⟩
      case measure => simp [intOf]; omega
    · have hk' : s.data.toList.take k = s.data.toList := plainL_full s k hlt
      rw [hk'] at hI
      have hsz := hB.size
      go_wp2_with (go_at_call 33; refine (Tryz.Builder_String_any _ _ _ _ hI hsz).mono ?_; rintro e w2 ⟨rfl, hb2⟩)
      go_ret
      exact ⟨rfl, hB.trans hb2⟩

set_option maxRecDepth 100000 in
set_option maxHeartbeats 1000000 in
theorem c_impl_Escaped_quot (s : ByteArray) (w : World) (h0 : s.size ≤ 1048576) (hp : plainL s.data.toList = true) :
    Calls Tryz.prog 88 #[.string s, .bool true] w fun e w' => e = .returned (.string ⟨(escapedL true s.data.toList).toArray⟩) ∧ Below w.heap.size w w' := by
  have e : escapedL true s.data.toList = escL true s.data.toList := by simp [escapedL, hp]
  rw [e]; clear e
  go_enter Tryz.func88, Tryz.ntmps88
  go_wp2_with (go_at_call 101; refine (c_impl_PlainOk _ _ (by unfold maxLen; omega)).mono ?_; rintro e w' ⟨rfl, rfl⟩)
  go_loopw [14] (fun i wr => ∃ k : Nat, k ≤ s.size ∧ i = .int .i64 k ∧ Lib.IsBuilder 47 5 w'.heap.size w'.heap.size (Lib.byteCells (escL true (s.data.toList.take k))) wr ∧ Below w'.heap.size w' wr) (fun i _ => s.size - (intOf i).toNat)
  case atStart => exact ⟨0, Nat.zero_le _, rfl, Lib.fresh_isBuilder 47 5 _, (Below.refl _ _).alloc (Nat.le_refl _) _⟩
  case round =>
    obtain ⟨k, hk, rfl, hI, hB⟩ := hrel
    by_cases hlt : k < s.size
    · have hsz := hB.size
      have hl := len_esc true s k hk
      have h6 := size_esc true s[k]
      have HI : Hid (Lib.IsBuilder 47 5 w'.heap.size w'.heap.size (Lib.byteCells (escL true (s.data.toList.take k))) wr) := hI
      clear hI
      go_wp2_with (first
        | (go_at_call 134; refine (c__impl_sign__inQuotes s[k] _).mono ?_; rintro e w1 ⟨rfl, hb1⟩)
        | (go_at_call 31; refine (writeString _ _ _ _ _ (isBuilder_below HI.out hb1) (by omega) (by have := hb1.size; omega)).mono ?_; rintro e w2 ⟨rfl, hI2, hb2, _⟩))
      go_roundw
      case rel => exact ⟨k + 1, by omega, by go_num, esc_round hlt hI2, hB.trans ((hb1.mono hsz).trans hb2)⟩
      case measure => simp [intOf]; omega
    · have hk' : s.data.toList.take k = s.data.toList := plainL_full s k hlt
      rw [hk'] at hI
      have hsz := hB.size
      go_wp2_with (go_at_call 33; refine (Tryz.Builder_String_any _ _ _ _ hI hsz).mono ?_; rintro e w2 ⟨rfl, hb2⟩)
      go_ret
      exact ⟨rfl, hB.trans hb2⟩

theorem own_step {q : Bool} {s : ByteArray} {k : Nat} {w1 : World} {B n : Nat} {v : Value} {xs : List Value} {l : List UInt8} (hlt : k < s.size) (hl : escB q s[k] = l) (hn : n = l.length) (hx : xs = Lib.byteCells l)
    (h : w1.ownsRow B 5 1 v ((escL q (s.data.toList.take k)).length + n) (Lib.byteCells (escL q (s.data.toList.take k)) ++ xs)) :
    w1.ownsRow B 5 1 v (escL q (s.data.toList.take (k + 1))).length (Lib.byteCells (escL q (s.data.toList.take (k + 1)))) := by
  rw [take_snocE s k hlt, escL_snoc, byteCells_app, List.length_append, hl, ← hn, ← hx]
  exact h

theorem len_esc' (q : Bool) (s : ByteArray) (k : Nat) (hk : k ≤ s.size) : (escL q (s.data.toList.take k)).length ≤ 6 * s.size := by
  have h := escL_le q (s.data.toList.take k)
  have h2 : (s.data.toList.take k).length ≤ k := List.length_take_le _ _
  omega

theorem info5E : (Tryz.prog.info? 5).map (fun i => (i.zero, i.size, i.bytes)) = some (some (.int .u8 0), 1, 1) := by kernel_rfl

set_option maxRecDepth 100000 in
set_option maxHeartbeats 1000000 in
theorem c_spec_Escaped_no (s : ByteArray) (q : Bool) (w : World) (h0 : s.size ≤ 1048576) (hp : plainL s.data.toList = false) :
    Calls Tryz.prog 124 #[.string s, .bool q] w fun e w' => e = .returned (.string ⟨(escapedL q s.data.toList).toArray⟩) ∧ Below w.heap.size w w' := by
  have e : escapedL q s.data.toList = [] := by simp [escapedL, hp]
  rw [e]
  go_enter Tryz.func124, Tryz.ntmps124
  go_wp2_with (go_at_call 111; refine (c_spec_PlainOk _ _ (by unfold maxLen; omega)).mono ?_; rintro e w' ⟨rfl, rfl⟩)
  go_ret
  exact ⟨rfl, Below.refl _ _⟩

theorem one_cellE (w : World) (v : Value) : ∀ j u, [v][j]? = some u → (w.alloc (.cells #[v] 5)).cell? ((⟨w.heap.size, 0, none⟩ : Addr).add j) = some u := by
  intro j u hj
  match j, hj with
  | 0, hj => simp at hj; subst hj; simp [Addr.add]

theorem one_one (n : Int) : ∀ u ∈ [Value.int .u8 n], u.oneCell' = true := by
  intro u hu; simp at hu; subst hu; rfl

set_option maxRecDepth 100000 in
set_option maxHeartbeats 4000000 in
theorem c_spec_Escaped_text (s : ByteArray) (w : World) (h0 : s.size ≤ 1048576) (hp : plainL s.data.toList = true) :
    Calls Tryz.prog 124 #[.string s, .bool false] w fun e w' => e = .returned (.string ⟨(escapedL false s.data.toList).toArray⟩) ∧ Below w.heap.size w w' := by
  have e : escapedL false s.data.toList = escL false s.data.toList := by simp [escapedL, hp]
  rw [e]; clear e
  obtain ⟨i0, hi, hz0, hz1, hz2⟩ := info_parts info5E
  go_enter Tryz.func124, Tryz.ntmps124
  go_wp2_with (go_at_call 111; refine (c_spec_PlainOk _ _ (by unfold maxLen; omega)).mono ?_; rintro e w' ⟨rfl, rfl⟩)
  clear hp
  go_loopw [5, 6] (fun v i wr => ∃ k : Nat, k ≤ s.size ∧ i = .int .i64 k ∧ wr.ownsRow w'.heap.size 5 1 v (escL false (s.data.toList.take k)).length (Lib.byteCells (escL false (s.data.toList.take k))) ∧ Below w'.heap.size w' wr) (fun _ i _ => s.size - (intOf i).toNat)
  case atStart => exact ⟨0, Nat.zero_le _, rfl, World.ownsRow_made _ _ _ (Nat.le_refl _) (by decide) rfl, (Below.refl _ _).alloc (Nat.le_refl _) _⟩
  case round =>
    obtain ⟨k, hk, rfl, hown, hB⟩ := hrel
    have hsz := hB.size
    by_cases hlt : k < s.size
    · have hl := len_esc' false s k hk
      have cases : (s[k].toNat : Int) = 38 ∨ (s[k].toNat : Int) = 60 ∨ (s[k].toNat : Int) = 62 ∨ (s[k].toNat : Int) = 34 ∨ (¬ (s[k].toNat : Int) = 38 ∧ ¬ (s[k].toNat : Int) = 60 ∧ ¬ (s[k].toNat : Int) = 62 ∧ ¬ (s[k].toNat : Int) = 34) := by omega
      rcases cases with h | h | h | h | h
      · have g0 : (s[k].toNat : Int) ≤ 38 := by omega
        have g1 : (38 : Int) ≤ s[k].toNat := by omega
        have he : escB false s[k] = [38, 97, 109, 112, 59] := by unfold escB; simp [show s[k].toNat = 38 by omega]
        have HE : Hid (escB false s[k] = [38, 97, 109, 112, 59]) := he
        clear he h
        go_wp2_with (at_builtin; refine Lib.wpList_append_own_string _ rfl _ _ 22 9 rfl w'.heap.size 5 i0 Tryz.underlying22 Tryz.underlying9 hi hz0 hz1 hz2 _ _ _ rfl hown ⟨#[38, 97, 109, 112, 59]⟩ rfl (show _ + 5 ≤ _ by unfold maxLen; omega) (show _ + 5 ≤ _ by omega) hsz ?_)
        intro v' w1 hown' hgrow _
        have R := own_step (q := false) hlt HE.out rfl rfl hown'
        have hB1 := hB.grown hgrow hsz (fun k hk => (hown.lt k hk).1)
        clear hown' hgrow hown
        go_wp2
        go_roundw
        case rel => exact ⟨k + 1, by omega, by go_num, R, hB1⟩
        case measure => simp [intOf]; omega
      · have g0 : (s[k].toNat : Int) ≤ 60 := by omega
        have g1 : (60 : Int) ≤ s[k].toNat := by omega
        have he : escB false s[k] = [38, 108, 116, 59] := by unfold escB; simp [show s[k].toNat = 60 by omega]
        have HE : Hid (escB false s[k] = [38, 108, 116, 59]) := he
        clear he h
        go_wp2_with (at_builtin; refine Lib.wpList_append_own_string _ rfl _ _ 22 9 rfl w'.heap.size 5 i0 Tryz.underlying22 Tryz.underlying9 hi hz0 hz1 hz2 _ _ _ rfl hown ⟨#[38, 108, 116, 59]⟩ rfl (show _ + 4 ≤ _ by unfold maxLen; omega) (show _ + 4 ≤ _ by omega) hsz ?_)
        intro v' w1 hown' hgrow _
        have R := own_step (q := false) hlt HE.out rfl rfl hown'
        have hB1 := hB.grown hgrow hsz (fun k hk => (hown.lt k hk).1)
        clear hown' hgrow hown
        go_wp2
        go_roundw
        case rel => exact ⟨k + 1, by omega, by go_num, R, hB1⟩
        case measure => simp [intOf]; omega
      · have g0 : (s[k].toNat : Int) ≤ 62 := by omega
        have g1 : (62 : Int) ≤ s[k].toNat := by omega
        have he : escB false s[k] = [38, 103, 116, 59] := by unfold escB; simp [show s[k].toNat = 62 by omega]
        have HE : Hid (escB false s[k] = [38, 103, 116, 59]) := he
        clear he h
        go_wp2_with (at_builtin; refine Lib.wpList_append_own_string _ rfl _ _ 22 9 rfl w'.heap.size 5 i0 Tryz.underlying22 Tryz.underlying9 hi hz0 hz1 hz2 _ _ _ rfl hown ⟨#[38, 103, 116, 59]⟩ rfl (show _ + 4 ≤ _ by unfold maxLen; omega) (show _ + 4 ≤ _ by omega) hsz ?_)
        intro v' w1 hown' hgrow _
        have R := own_step (q := false) hlt HE.out rfl rfl hown'
        have hB1 := hB.grown hgrow hsz (fun k hk => (hown.lt k hk).1)
        clear hown' hgrow hown
        go_wp2
        go_roundw
        case rel => exact ⟨k + 1, by omega, by go_num, R, hB1⟩
        case measure => simp [intOf]; omega
      · have g0 : (s[k].toNat : Int) ≤ 34 := by omega
        have g1 : (34 : Int) ≤ s[k].toNat := by omega
        have he : escB false s[k] = [s[k]] := by unfold escB; simp [show s[k].toNat = 34 by omega]
        have HN : Hid ((s[k].toNat : Int) = 34) := h
        have HE : Hid (escB false s[k] = [s[k]]) := he
        clear he h
        go_wp2_with (at_builtin; refine wpList_append_own _ rfl _ _ 22 rfl w'.heap.size 5 i0 (.int .u8 0) 1 1 Tryz.underlying22 hi hz0 hz1 hz2 rfl (by decide) _ _ _ rfl (hown.alloc _) ⟨wr.heap.size, 0, none⟩ 1 1 [.int .u8 34] rfl rfl (one_cellE _ _) (one_one _) (by unfold maxLen; omega) (by omega) (by simp; omega) ?_)
        intro v' w1 hown' hgrow _
        have R := own_step (q := false) hlt HE.out rfl (by simp [Lib.byteCells, HN.out]) hown'
        have hB1 := (hB.alloc hsz _).grown hgrow (by simp; omega) (fun k hk => (hown.lt k hk).1)
        clear hown' hgrow hown
        go_wp2
        go_roundw
        case rel => exact ⟨k + 1, by omega, by go_num, R, hB1⟩
        case measure => simp [intOf]; omega
      · obtain ⟨x0, x1, x2, x3⟩ := h
        have he : escB false s[k] = [s[k]] := by unfold escB; simp [show ¬ s[k].toNat = 38 by omega, show ¬ s[k].toNat = 60 by omega, show ¬ s[k].toNat = 62 by omega, show ¬ s[k].toNat = 34 by omega]
        have HE : Hid (escB false s[k] = [s[k]]) := he
        clear he
        go_wp2_with (at_builtin; refine wpList_append_own _ rfl _ _ 22 rfl w'.heap.size 5 i0 (.int .u8 0) 1 1 Tryz.underlying22 hi hz0 hz1 hz2 rfl (by decide) _ _ _ rfl (hown.alloc _) ⟨wr.heap.size, 0, none⟩ 1 1 [.int .u8 s[k].toNat] rfl rfl (one_cellE _ _) (one_one _) (by unfold maxLen; omega) (by omega) (by simp; omega) ?_)
        intro v' w1 hown' hgrow _
        have R := own_step (q := false) hlt HE.out rfl rfl hown'
        have hB1 := (hB.alloc hsz _).grown hgrow (by simp; omega) (fun k hk => (hown.lt k hk).1)
        clear hown' hgrow hown
        go_wp2
        go_roundw
        case rel => exact ⟨k + 1, by omega, by go_num, R, hB1⟩
        case measure => simp [intOf]; omega
    · have hk' : s.data.toList.take k = s.data.toList := plainL_full s k hlt
      rw [hk'] at hown
      have hr := run_str_own (P := Tryz.prog) (src := 22) (dst := 9) Tryz.underlying22 Tryz.underlying5 Tryz.underlying9 hown
      clear hown hk'
      go_wp2
      go_ret
      exact ⟨rfl, hB⟩

set_option maxRecDepth 100000 in
set_option maxHeartbeats 4000000 in
theorem c_spec_Escaped_quot (s : ByteArray) (w : World) (h0 : s.size ≤ 1048576) (hp : plainL s.data.toList = true) :
    Calls Tryz.prog 124 #[.string s, .bool true] w fun e w' => e = .returned (.string ⟨(escapedL true s.data.toList).toArray⟩) ∧ Below w.heap.size w w' := by
  have e : escapedL true s.data.toList = escL true s.data.toList := by simp [escapedL, hp]
  rw [e]; clear e
  obtain ⟨i0, hi, hz0, hz1, hz2⟩ := info_parts info5E
  go_enter Tryz.func124, Tryz.ntmps124
  go_wp2_with (go_at_call 111; refine (c_spec_PlainOk _ _ (by unfold maxLen; omega)).mono ?_; rintro e w' ⟨rfl, rfl⟩)
  clear hp
  go_loopw [5, 6] (fun v i wr => ∃ k : Nat, k ≤ s.size ∧ i = .int .i64 k ∧ wr.ownsRow w'.heap.size 5 1 v (escL true (s.data.toList.take k)).length (Lib.byteCells (escL true (s.data.toList.take k))) ∧ Below w'.heap.size w' wr) (fun _ i _ => s.size - (intOf i).toNat)
  case atStart => exact ⟨0, Nat.zero_le _, rfl, World.ownsRow_made _ _ _ (Nat.le_refl _) (by decide) rfl, (Below.refl _ _).alloc (Nat.le_refl _) _⟩
  case round =>
    obtain ⟨k, hk, rfl, hown, hB⟩ := hrel
    have hsz := hB.size
    by_cases hlt : k < s.size
    · have hl := len_esc' true s k hk
      have cases : (s[k].toNat : Int) = 38 ∨ (s[k].toNat : Int) = 60 ∨ (s[k].toNat : Int) = 62 ∨ (s[k].toNat : Int) = 34 ∨ (¬ (s[k].toNat : Int) = 38 ∧ ¬ (s[k].toNat : Int) = 60 ∧ ¬ (s[k].toNat : Int) = 62 ∧ ¬ (s[k].toNat : Int) = 34) := by omega
      rcases cases with h | h | h | h | h
      · have g0 : (s[k].toNat : Int) ≤ 38 := by omega
        have g1 : (38 : Int) ≤ s[k].toNat := by omega
        have he : escB true s[k] = [38, 97, 109, 112, 59] := by unfold escB; simp [show s[k].toNat = 38 by omega]
        have HE : Hid (escB true s[k] = [38, 97, 109, 112, 59]) := he
        clear he h
        go_wp2_with (at_builtin; refine Lib.wpList_append_own_string _ rfl _ _ 22 9 rfl w'.heap.size 5 i0 Tryz.underlying22 Tryz.underlying9 hi hz0 hz1 hz2 _ _ _ rfl hown ⟨#[38, 97, 109, 112, 59]⟩ rfl (show _ + 5 ≤ _ by unfold maxLen; omega) (show _ + 5 ≤ _ by omega) hsz ?_)
        intro v' w1 hown' hgrow _
        have R := own_step (q := true) hlt HE.out rfl rfl hown'
        have hB1 := hB.grown hgrow hsz (fun k hk => (hown.lt k hk).1)
        clear hown' hgrow hown
        go_wp2
        go_roundw
        case rel => exact ⟨k + 1, by omega, by go_num, R, hB1⟩
        case measure => simp [intOf]; omega
      · have g0 : (s[k].toNat : Int) ≤ 60 := by omega
        have g1 : (60 : Int) ≤ s[k].toNat := by omega
        have he : escB true s[k] = [38, 108, 116, 59] := by unfold escB; simp [show s[k].toNat = 60 by omega]
        have HE : Hid (escB true s[k] = [38, 108, 116, 59]) := he
        clear he h
        go_wp2_with (at_builtin; refine Lib.wpList_append_own_string _ rfl _ _ 22 9 rfl w'.heap.size 5 i0 Tryz.underlying22 Tryz.underlying9 hi hz0 hz1 hz2 _ _ _ rfl hown ⟨#[38, 108, 116, 59]⟩ rfl (show _ + 4 ≤ _ by unfold maxLen; omega) (show _ + 4 ≤ _ by omega) hsz ?_)
        intro v' w1 hown' hgrow _
        have R := own_step (q := true) hlt HE.out rfl rfl hown'
        have hB1 := hB.grown hgrow hsz (fun k hk => (hown.lt k hk).1)
        clear hown' hgrow hown
        go_wp2
        go_roundw
        case rel => exact ⟨k + 1, by omega, by go_num, R, hB1⟩
        case measure => simp [intOf]; omega
      · have g0 : (s[k].toNat : Int) ≤ 62 := by omega
        have g1 : (62 : Int) ≤ s[k].toNat := by omega
        have he : escB true s[k] = [s[k]] := by unfold escB; simp [show s[k].toNat = 62 by omega]
        have HN : Hid ((s[k].toNat : Int) = 62) := h
        have HE : Hid (escB true s[k] = [s[k]]) := he
        clear he h
        go_wp2_with (at_builtin; refine wpList_append_own _ rfl _ _ 22 rfl w'.heap.size 5 i0 (.int .u8 0) 1 1 Tryz.underlying22 hi hz0 hz1 hz2 rfl (by decide) _ _ _ rfl (hown.alloc _) ⟨wr.heap.size, 0, none⟩ 1 1 [.int .u8 62] rfl rfl (one_cellE _ _) (one_one _) (by unfold maxLen; omega) (by omega) (by simp; omega) ?_)
        intro v' w1 hown' hgrow _
        have R := own_step (q := true) hlt HE.out rfl (by simp [Lib.byteCells, HN.out]) hown'
        have hB1 := (hB.alloc hsz _).grown hgrow (by simp; omega) (fun k hk => (hown.lt k hk).1)
        clear hown' hgrow hown
        go_wp2
        go_roundw
        case rel => exact ⟨k + 1, by omega, by go_num, R, hB1⟩
        case measure => simp [intOf]; omega
      · have g0 : (s[k].toNat : Int) ≤ 34 := by omega
        have g1 : (34 : Int) ≤ s[k].toNat := by omega
        have he : escB true s[k] = [38, 113, 117, 111, 116, 59] := by unfold escB; simp [show s[k].toNat = 34 by omega]
        have HE : Hid (escB true s[k] = [38, 113, 117, 111, 116, 59]) := he
        clear he h
        go_wp2_with (at_builtin; refine Lib.wpList_append_own_string _ rfl _ _ 22 9 rfl w'.heap.size 5 i0 Tryz.underlying22 Tryz.underlying9 hi hz0 hz1 hz2 _ _ _ rfl hown ⟨#[38, 113, 117, 111, 116, 59]⟩ rfl (show _ + 6 ≤ _ by unfold maxLen; omega) (show _ + 6 ≤ _ by omega) hsz ?_)
        intro v' w1 hown' hgrow _
        have R := own_step (q := true) hlt HE.out rfl rfl hown'
        have hB1 := hB.grown hgrow hsz (fun k hk => (hown.lt k hk).1)
        clear hown' hgrow hown
        go_wp2
        go_roundw
        case rel => exact ⟨k + 1, by omega, by go_num, R, hB1⟩
        case measure => simp [intOf]; omega
      · obtain ⟨x0, x1, x2, x3⟩ := h
        have he : escB true s[k] = [s[k]] := by unfold escB; simp [show ¬ s[k].toNat = 38 by omega, show ¬ s[k].toNat = 60 by omega, show ¬ s[k].toNat = 62 by omega, show ¬ s[k].toNat = 34 by omega]
        have HE : Hid (escB true s[k] = [s[k]]) := he
        clear he
        go_wp2_with (at_builtin; refine wpList_append_own _ rfl _ _ 22 rfl w'.heap.size 5 i0 (.int .u8 0) 1 1 Tryz.underlying22 hi hz0 hz1 hz2 rfl (by decide) _ _ _ rfl (hown.alloc _) ⟨wr.heap.size, 0, none⟩ 1 1 [.int .u8 s[k].toNat] rfl rfl (one_cellE _ _) (one_one _) (by unfold maxLen; omega) (by omega) (by simp; omega) ?_)
        intro v' w1 hown' hgrow _
        have R := own_step (q := true) hlt HE.out rfl rfl hown'
        have hB1 := (hB.alloc hsz _).grown hgrow (by simp; omega) (fun k hk => (hown.lt k hk).1)
        clear hown' hgrow hown
        go_wp2
        go_roundw
        case rel => exact ⟨k + 1, by omega, by go_num, R, hB1⟩
        case measure => simp [intOf]; omega
    · have hk' : s.data.toList.take k = s.data.toList := plainL_full s k hlt
      rw [hk'] at hown
      have hr := run_str_own (P := Tryz.prog) (src := 22) (dst := 9) Tryz.underlying22 Tryz.underlying5 Tryz.underlying9 hown
      clear hown hk'
      go_wp2
      go_ret
      exact ⟨rfl, hB⟩

theorem c_spec_Escaped (s : ByteArray) (q : Bool) (w : World) (h0 : s.size ≤ 1048576) :
    Calls Tryz.prog 124 #[.string s, .bool q] w fun e w' => e = .returned (.string ⟨(escapedL q s.data.toList).toArray⟩) ∧ Below w.heap.size w w' := by
  cases hp : plainL s.data.toList
  · exact c_spec_Escaped_no s q w h0 hp
  · cases q
    · exact c_spec_Escaped_text s w h0 hp
    · exact c_spec_Escaped_quot s w h0 hp

theorem c_impl_Escaped (s : ByteArray) (q : Bool) (w : World) (h0 : s.size ≤ 1048576) :
    Calls Tryz.prog 88 #[.string s, .bool q] w fun e w' => e = .returned (.string ⟨(escapedL q s.data.toList).toArray⟩) ∧ Below w.heap.size w w' := by
  cases hp : plainL s.data.toList
  · exact c_impl_Escaped_no s q w h0 hp
  · cases q
    · exact c_impl_Escaped_text s w h0 hp
    · exact c_impl_Escaped_quot s w h0 hp

end Go.Proofs.YteninofjeidljaaGreat

namespace Go.Proofs.YteninofjeidljaaGreat

open Go.RowKit

set_option linter.unusedVariables false

set_option linter.unusedSimpArgs false

def marksObj : Obj := .cells #[.string ⟨#[38, 97, 109, 112, 59]⟩, .string ⟨#[38, 108, 116, 59]⟩, .string ⟨#[38, 103, 116, 59]⟩, .string ⟨#[38, 113, 117, 111, 116, 59]⟩] 9 (0, 0)

/-- Which mark begins the text, of the first so many: the last that does; -1 of none. -/
def fnd (l : List UInt8) : Nat → Int
  | 0 => -1
  | 1 => if amp.isPrefixOf l then 0 else -1
  | 2 => if lt.isPrefixOf l then 1 else if amp.isPrefixOf l then 0 else -1
  | 3 => if gt.isPrefixOf l then 2 else if lt.isPrefixOf l then 1 else if amp.isPrefixOf l then 0 else -1
  | _ => if quot.isPrefixOf l then 3 else if gt.isPrefixOf l then 2 else if lt.isPrefixOf l then 1 else if amp.isPrefixOf l then 0 else -1

theorem ext_take (s : ByteArray) (k n : Nat) : (s.extract k (k + n)).toList = (s.data.toList.drop k).take n := by
  rw [Lib.toList_data, ByteArray.data_extract, Array.toList_extract, List.extract_eq_take_drop]
  congr 1
  omega

theorem take_eq (l p : List UInt8) : (l.take p.length == p) = p.isPrefixOf l := by
  rw [Bool.eq_iff_iff, beq_iff_eq, List.isPrefixOf_iff_prefix, List.prefix_iff_eq_take]
  exact eq_comm

theorem hsl_of (s : ByteArray) (k n : Nat) (h : k + n ≤ s.size) : ∀ W, (Instr.slice 9 (.string s) (some (.int .i64 k)) (some (.int .i64 ((k : Int) + n))) none).run Tryz.prog W = .ok (.string (s.extract k (k + n))) W := by
  intro W
  have := run_slice_string (P := Tryz.prog) W 9 s .i64 .i64 (k : Int) ((k : Int) + n) Tryz.underlying9 (by omega) (by omega) (by omega)
  rw [this]
  congr 3

theorem short_no (s : ByteArray) (k : Nat) (p : List UInt8) (hk : k ≤ s.size) (h : ¬ k + p.length ≤ s.size) : p.isPrefixOf (s.data.toList.drop k) = false := by
  cases hp : p.isPrefixOf (s.data.toList.drop k) with
  | false => rfl
  | true =>
    have h2 := isPrefixOf_le hp
    rw [drop_len] at h2
    omega

theorem marks_kept {wr w1 : World} {B : Nat} {v : Value} {n : Nat} {xs : List Value} (hM : wr.heap[B + 1]? = some marksObj) (hown : wr.ownsRow B 5 1 v n xs) (hg : wr.grownBy w1 v.ownBlock) : w1.heap[B + 1]? = some marksObj := by
  rw [hg.block (B + 1) (lt_of_heap hM) (fun e => Lib.ownBlock_ne (T := 9) hown hM (by decide) e.symm)]
  exact hM

theorem marks_alloc {wr : World} {B : Nat} (o : Obj) (hM : wr.heap[B + 1]? = some marksObj) : (wr.alloc o).heap[B + 1]? = some marksObj :=
  (Lib.alloc_old wr o (B + 1) (lt_of_heap hM)).trans hM

set_option maxRecDepth 100000 in
set_option maxHeartbeats 1000000 in
theorem c_spec_Unescaped_no (s : ByteArray) (w : World) (h0 : s.size ≤ 1048576) (hp : plainL s.data.toList = false) :
    Calls Tryz.prog 113 #[.string s] w fun e w' => e = .returned (.tuple #[.string ⟨(outU (unescL s.data.toList)).toArray⟩, .bool (unescL s.data.toList).isSome]) ∧ Below w.heap.size w w' := by
  rw [unesc_no hp]
  go_enter Tryz.func113, Tryz.ntmps113
  go_wp2_with (go_at_call 111; refine (c_spec_PlainOk _ _ (by unfold maxLen; omega)).mono ?_; rintro e w' ⟨rfl, rfl⟩)
  go_ret2
  exact ⟨rfl, Below.refl _ _⟩

theorem apart {p q l : List UInt8} (h : p.isPrefixOf l = true) (hpq : p.isPrefixOf q = false) (hqp : q.isPrefixOf p = false) : q.isPrefixOf l = false := by
  cases hq : q.isPrefixOf l with
  | false => rfl
  | true =>
    have h1 := List.isPrefixOf_iff_prefix.1 h
    have h2 := List.isPrefixOf_iff_prefix.1 hq
    rcases List.prefix_or_prefix_of_prefix h1 h2 with h3 | h3
    · rw [List.isPrefixOf_iff_prefix.2 h3] at hpq; exact absurd hpq (by decide)
    · rw [List.isPrefixOf_iff_prefix.2 h3] at hqp; exact absurd hqp (by decide)

theorem no_lt_of_amp {l : List UInt8} (h : amp.isPrefixOf l = true) : lt.isPrefixOf l = false := apart h (by decide) (by decide)

theorem no_gt_of_amp {l : List UInt8} (h : amp.isPrefixOf l = true) : gt.isPrefixOf l = false := apart h (by decide) (by decide)

theorem no_quot_of_amp {l : List UInt8} (h : amp.isPrefixOf l = true) : quot.isPrefixOf l = false := apart h (by decide) (by decide)

theorem no_gt_of_lt {l : List UInt8} (h : lt.isPrefixOf l = true) : gt.isPrefixOf l = false := apart h (by decide) (by decide)

theorem no_quot_of_lt {l : List UInt8} (h : lt.isPrefixOf l = true) : quot.isPrefixOf l = false := apart h (by decide) (by decide)

theorem no_quot_of_gt {l : List UInt8} (h : gt.isPrefixOf l = true) : quot.isPrefixOf l = false := apart h (by decide) (by decide)

set_option maxRecDepth 100000 in
set_option maxHeartbeats 8000000 in
theorem c_spec_Unescaped_yes (s : ByteArray) (w : World) (h0 : s.size ≤ 1048576) (hp : plainL s.data.toList = true) :
    Calls Tryz.prog 113 #[.string s] w fun e w' => e = .returned (.tuple #[.string ⟨(outU (unescL s.data.toList)).toArray⟩, .bool (unescL s.data.toList).isSome]) ∧ Below w.heap.size w w' := by
  obtain ⟨i0, hi, hz0, hz1, hz2⟩ := info_parts info5E
  go_enter Tryz.func113, Tryz.ntmps113
  go_wp2_with (go_at_call 111; refine (c_spec_PlainOk _ _ (by unfold maxLen; omega)).mono ?_; rintro e w' ⟨rfl, rfl⟩)
  have HP : Hid (plainL s.data.toList = true) := hp
  clear hp
  go_loopw [4, 6] (fun v i wr => ∃ (k : Nat) (acc : List UInt8), k ≤ s.size ∧ i = .int .i64 k ∧ Reads s k acc ∧ wr.ownsRow w'.heap.size 5 1 v acc.length (Lib.byteCells acc) ∧ wr.heap[w'.heap.size + 1]? = some marksObj ∧ Below w'.heap.size w' wr) (fun _ i _ => s.size - (intOf i).toNat)
  case atStart =>
    refine ⟨0, [], Nat.zero_le _, rfl, reads_start s, (World.ownsRow_made _ _ _ (Nat.le_refl _) (by decide) rfl).alloc _, ?_, ((Below.refl _ _).alloc (Nat.le_refl _) _).alloc (by simp) _⟩
    rw [show w'.heap.size + 1 = (w'.alloc (.cells #[] 5)).heap.size by simp]
    exact heap_alloc_new _ _
  case round =>
    obtain ⟨k, acc, hk, rfl, hR, hown, hM, hB⟩ := hrel
    have hsz := hB.size
    have HR : Hid (Reads s k acc) := hR
    have hal : acc.length ≤ k := hR.1
    clear hR
    have m0 : wr.cell? ⟨w'.heap.size + 1, 0, none⟩ = some (.string ⟨#[38, 97, 109, 112, 59]⟩) := by rw [Lib.cell_of_heap hM]; rfl
    have m1 : wr.cell? ⟨w'.heap.size + 1, 1, none⟩ = some (.string ⟨#[38, 108, 116, 59]⟩) := by rw [Lib.cell_of_heap hM]; rfl
    have m2 : wr.cell? ⟨w'.heap.size + 1, 2, none⟩ = some (.string ⟨#[38, 103, 116, 59]⟩) := by rw [Lib.cell_of_heap hM]; rfl
    have m3 : wr.cell? ⟨w'.heap.size + 1, 3, none⟩ = some (.string ⟨#[38, 113, 117, 111, 116, 59]⟩) := by rw [Lib.cell_of_heap hM]; rfl
    by_cases hlt : k < s.size
    · have hcons : s.data.toList.drop k = s[k] :: s.data.toList.drop (k + 1) := List.drop_eq_getElem_cons (by rw [← szE s]; exact hlt)
      by_cases hc : (s[k].toNat : Int) = 38
      · have hb : ((s[k].toNat : Int) != 38) = false := by simp; omega
        have HC : Hid ((s[k].toNat : Int) = 38) := hc
        have HL : Hid (s.data.toList.drop k = s[k] :: s.data.toList.drop (k + 1)) := hcons
        clear hc hcons
        go_wp2
        go_loopw [7, 8] (fun f j wi => ∃ (m : Nat), m ≤ 4 ∧ j = .int .i64 m ∧ f = .int .i64 (fnd (s.data.toList.drop k) m) ∧ ∃ d, wi = wr.drewN d) (fun _ j _ => meas j)
        case atStart => exact ⟨0, by omega, rfl, rfl, 0, rfl⟩
        case round =>
          obtain ⟨m, hm, rfl, rfl, d, rfl⟩ := hrel
          rcases (show m = 0 ∨ m = 1 ∨ m = 2 ∨ m = 3 ∨ m = 4 from by omega) with rfl | rfl | rfl | rfl | rfl
          · have M : (wr.drewN d).cell? ⟨w'.heap.size + 1, 0, none⟩ = some (.string ⟨#[38, 97, 109, 112, 59]⟩) := m0
            by_cases hg : k + 5 ≤ s.size
            · have hgi : ((k : Int) + 5 ≤ s.size) := by omega
              have hgd : decide ((k : Int) + 5 ≤ s.size) = true := by simp; omega
              have hsl : ∀ W, (Instr.slice 9 (.string s) (some (.int .i64 k)) (some (.int .i64 ((k : Int) + 5))) none).run Tryz.prog W = .ok (.string (s.extract k (k + 5))) W := hsl_of s k 5 hg
              have hw : IntKind.i64.wrap ((k : Int) + 5) = (k : Int) + 5 := IntWalk.i64_in _ (by omega)
              have hE : ((s.extract k (k + 5)).toList == [38, 97, 109, 112, 59]) = amp.isPrefixOf (s.data.toList.drop k) := by rw [ext_take]; exact take_eq _ amp
              cases hP : amp.isPrefixOf (s.data.toList.drop k) with
              | true =>
                rw [hP] at hE
                have HF : Hid (fnd (s.data.toList.drop k) (0 + 1) = 0) := by show fnd _ _ = _; simp [fnd, hP]
                clear hP
                go_wp2
                go_quiet (fail)
                clear hgi hgd hsl hw
                go_wp2
                go_roundw
                case rel => exact ⟨1, by omega, by go_num, by rw [HF.out]; go_num, _, rfl⟩
                case measure => simp [meas, intOf]
              | false =>
                rw [hP] at hE
                have HF : Hid (fnd (s.data.toList.drop k) (0 + 1) = fnd (s.data.toList.drop k) 0) := by show fnd _ _ = fnd _ _; simp [fnd, hP]
                clear hP
                go_wp2
                go_quiet (fail)
                clear hgi hgd hsl hw
                go_wp2
                go_roundw
                case rel => exact ⟨1, by omega, by go_num, by rw [HF.out], _, rfl⟩
                case measure => simp [meas, intOf]
            · have hgi : decide ((k : Int) + 5 ≤ s.size) = false := by simp; omega
              have hw : IntKind.i64.wrap ((k : Int) + 5) = (k : Int) + 5 := IntWalk.i64_in _ (by omega)
              have hP := short_no s k amp hk hg
              have HF : Hid (fnd (s.data.toList.drop k) (0 + 1) = fnd (s.data.toList.drop k) 0) := by show fnd _ _ = fnd _ _; simp [fnd, hP]
              clear hP
              go_wp2
              go_quiet (fail)
              clear hgi hw
              go_wp2
              go_roundw
              case rel => exact ⟨1, by omega, by go_num, by rw [HF.out], _, rfl⟩
              case measure => simp [meas, intOf]
          · have M : (wr.drewN d).cell? ⟨w'.heap.size + 1, 1, none⟩ = some (.string ⟨#[38, 108, 116, 59]⟩) := m1
            by_cases hg : k + 4 ≤ s.size
            · have hgi : ((k : Int) + 4 ≤ s.size) := by omega
              have hgd : decide ((k : Int) + 4 ≤ s.size) = true := by simp; omega
              have hsl : ∀ W, (Instr.slice 9 (.string s) (some (.int .i64 k)) (some (.int .i64 ((k : Int) + 4))) none).run Tryz.prog W = .ok (.string (s.extract k (k + 4))) W := hsl_of s k 4 hg
              have hw : IntKind.i64.wrap ((k : Int) + 4) = (k : Int) + 4 := IntWalk.i64_in _ (by omega)
              have hE : ((s.extract k (k + 4)).toList == [38, 108, 116, 59]) = lt.isPrefixOf (s.data.toList.drop k) := by rw [ext_take]; exact take_eq _ lt
              cases hP : lt.isPrefixOf (s.data.toList.drop k) with
              | true =>
                rw [hP] at hE
                have HF : Hid (fnd (s.data.toList.drop k) (1 + 1) = 1) := by show fnd _ _ = _; simp [fnd, hP]
                clear hP
                go_wp2
                go_quiet (fail)
                clear hgi hgd hsl hw
                go_wp2
                go_roundw
                case rel => exact ⟨2, by omega, by go_num, by rw [HF.out]; go_num, _, rfl⟩
                case measure => simp [meas, intOf]
              | false =>
                rw [hP] at hE
                have HF : Hid (fnd (s.data.toList.drop k) (1 + 1) = fnd (s.data.toList.drop k) 1) := by show fnd _ _ = fnd _ _; simp [fnd, hP]
                clear hP
                go_wp2
                go_quiet (fail)
                clear hgi hgd hsl hw
                go_wp2
                go_roundw
                case rel => exact ⟨2, by omega, by go_num, by rw [HF.out], _, rfl⟩
                case measure => simp [meas, intOf]
            · have hgi : decide ((k : Int) + 4 ≤ s.size) = false := by simp; omega
              have hw : IntKind.i64.wrap ((k : Int) + 4) = (k : Int) + 4 := IntWalk.i64_in _ (by omega)
              have hP := short_no s k lt hk hg
              have HF : Hid (fnd (s.data.toList.drop k) (1 + 1) = fnd (s.data.toList.drop k) 1) := by show fnd _ _ = fnd _ _; simp [fnd, hP]
              clear hP
              go_wp2
              go_quiet (fail)
              clear hgi hw
              go_wp2
              go_roundw
              case rel => exact ⟨2, by omega, by go_num, by rw [HF.out], _, rfl⟩
              case measure => simp [meas, intOf]
          · have M : (wr.drewN d).cell? ⟨w'.heap.size + 1, 2, none⟩ = some (.string ⟨#[38, 103, 116, 59]⟩) := m2
            by_cases hg : k + 4 ≤ s.size
            · have hgi : ((k : Int) + 4 ≤ s.size) := by omega
              have hgd : decide ((k : Int) + 4 ≤ s.size) = true := by simp; omega
              have hsl : ∀ W, (Instr.slice 9 (.string s) (some (.int .i64 k)) (some (.int .i64 ((k : Int) + 4))) none).run Tryz.prog W = .ok (.string (s.extract k (k + 4))) W := hsl_of s k 4 hg
              have hw : IntKind.i64.wrap ((k : Int) + 4) = (k : Int) + 4 := IntWalk.i64_in _ (by omega)
              have hE : ((s.extract k (k + 4)).toList == [38, 103, 116, 59]) = gt.isPrefixOf (s.data.toList.drop k) := by rw [ext_take]; exact take_eq _ gt
              cases hP : gt.isPrefixOf (s.data.toList.drop k) with
              | true =>
                rw [hP] at hE
                have HF : Hid (fnd (s.data.toList.drop k) (2 + 1) = 2) := by show fnd _ _ = _; simp [fnd, hP]
                clear hP
                go_wp2
                go_quiet (fail)
                clear hgi hgd hsl hw
                go_wp2
                go_roundw
                case rel => exact ⟨3, by omega, by go_num, by rw [HF.out]; go_num, _, rfl⟩
                case measure => simp [meas, intOf]
              | false =>
                rw [hP] at hE
                have HF : Hid (fnd (s.data.toList.drop k) (2 + 1) = fnd (s.data.toList.drop k) 2) := by show fnd _ _ = fnd _ _; simp [fnd, hP]
                clear hP
                go_wp2
                go_quiet (fail)
                clear hgi hgd hsl hw
                go_wp2
                go_roundw
                case rel => exact ⟨3, by omega, by go_num, by rw [HF.out], _, rfl⟩
                case measure => simp [meas, intOf]
            · have hgi : decide ((k : Int) + 4 ≤ s.size) = false := by simp; omega
              have hw : IntKind.i64.wrap ((k : Int) + 4) = (k : Int) + 4 := IntWalk.i64_in _ (by omega)
              have hP := short_no s k gt hk hg
              have HF : Hid (fnd (s.data.toList.drop k) (2 + 1) = fnd (s.data.toList.drop k) 2) := by show fnd _ _ = fnd _ _; simp [fnd, hP]
              clear hP
              go_wp2
              go_quiet (fail)
              clear hgi hw
              go_wp2
              go_roundw
              case rel => exact ⟨3, by omega, by go_num, by rw [HF.out], _, rfl⟩
              case measure => simp [meas, intOf]
          · have M : (wr.drewN d).cell? ⟨w'.heap.size + 1, 3, none⟩ = some (.string ⟨#[38, 113, 117, 111, 116, 59]⟩) := m3
            by_cases hg : k + 6 ≤ s.size
            · have hgi : ((k : Int) + 6 ≤ s.size) := by omega
              have hgd : decide ((k : Int) + 6 ≤ s.size) = true := by simp; omega
              have hsl : ∀ W, (Instr.slice 9 (.string s) (some (.int .i64 k)) (some (.int .i64 ((k : Int) + 6))) none).run Tryz.prog W = .ok (.string (s.extract k (k + 6))) W := hsl_of s k 6 hg
              have hw : IntKind.i64.wrap ((k : Int) + 6) = (k : Int) + 6 := IntWalk.i64_in _ (by omega)
              have hE : ((s.extract k (k + 6)).toList == [38, 113, 117, 111, 116, 59]) = quot.isPrefixOf (s.data.toList.drop k) := by rw [ext_take]; exact take_eq _ quot
              cases hP : quot.isPrefixOf (s.data.toList.drop k) with
              | true =>
                rw [hP] at hE
                have HF : Hid (fnd (s.data.toList.drop k) (3 + 1) = 3) := by show fnd _ _ = _; simp [fnd, hP]
                clear hP
                go_wp2
                go_quiet (fail)
                clear hgi hgd hsl hw
                go_wp2
                go_roundw
                case rel => exact ⟨4, by omega, by go_num, by rw [HF.out]; go_num, _, rfl⟩
                case measure => simp [meas, intOf]
              | false =>
                rw [hP] at hE
                have HF : Hid (fnd (s.data.toList.drop k) (3 + 1) = fnd (s.data.toList.drop k) 3) := by show fnd _ _ = fnd _ _; simp [fnd, hP]
                clear hP
                go_wp2
                go_quiet (fail)
                clear hgi hgd hsl hw
                go_wp2
                go_roundw
                case rel => exact ⟨4, by omega, by go_num, by rw [HF.out], _, rfl⟩
                case measure => simp [meas, intOf]
            · have hgi : decide ((k : Int) + 6 ≤ s.size) = false := by simp; omega
              have hw : IntKind.i64.wrap ((k : Int) + 6) = (k : Int) + 6 := IntWalk.i64_in _ (by omega)
              have hP := short_no s k quot hk hg
              have HF : Hid (fnd (s.data.toList.drop k) (3 + 1) = fnd (s.data.toList.drop k) 3) := by show fnd _ _ = fnd _ _; simp [fnd, hP]
              clear hP
              go_wp2
              go_quiet (fail)
              clear hgi hw
              go_wp2
              go_roundw
              case rel => exact ⟨4, by omega, by go_num, by rw [HF.out], _, rfl⟩
              case measure => simp [meas, intOf]
          · cases P0 : amp.isPrefixOf (s.data.toList.drop k) with
            | true =>
              have hr : readL (s.data.toList.drop k) = some (38, 5) := readL_amp _ P0
              have hF : fnd (s.data.toList.drop k) 4 = 0 := by simp [fnd, P0, no_lt_of_amp P0, no_gt_of_amp P0, no_quot_of_amp P0]
              have hn := readL_le _ _ _ hr
              rw [drop_len] at hn
              have hn2 : k + 5 ≤ s.size := by omega
              have HS : Hid (Reads s (k + 5) (acc ++ [38])) := reads_step HR.out hlt hr
              clear hr hn P0
              rw [hF]
              clear hF
              have hown0 : (wr.drewN d).ownsRow w'.heap.size 5 1 u4 acc.length (Lib.byteCells acc) := hown
              have hM0 : (wr.drewN d).heap[w'.heap.size + 1]? = some marksObj := hM
              have hB0 : Below w'.heap.size w' (wr.drewN d) := ⟨hB.os, hB.tape, hB.output, hB.size, hB.block⟩
              go_wp2_with (at_builtin; refine wpList_append_own _ rfl _ _ 22 rfl w'.heap.size 5 i0 (.int .u8 0) 1 1 Tryz.underlying22 hi hz0 hz1 hz2 rfl (by decide) _ _ _ rfl (hown0.alloc _) ⟨wr.heap.size, 0, none⟩ 1 1 [.int .u8 38] rfl rfl (one_cellE _ _) (one_one _) (by unfold maxLen; omega) (by omega) (by simp; omega) ?_)
              intro v' w1 hown' hgrow _
              have hM1 := marks_kept (marks_alloc _ hM0) (hown0.alloc _) hgrow
              have hB1 := (hB0.alloc hsz _).grown hgrow (by simp; omega) (fun k hk => (hown0.lt k hk).1)
              have mm : w1.cell? ⟨w'.heap.size + 1, 0, none⟩ = some (.string ⟨#[38, 97, 109, 112, 59]⟩) := by rw [Lib.cell_of_heap hM1]; rfl
              have R : w1.ownsRow w'.heap.size 5 1 v' (acc ++ [38]).length (Lib.byteCells (acc ++ [38])) := by rw [byteCells_snoc, List.length_append]; exact hown'
              clear hown' hgrow hown hown0 hM hM0 hB0 m0 m1 m2 m3
              go_wp2
              go_roundw
              case rel => exact ⟨k + 5, acc ++ [38], by omega, by go_num, HS.out, R, hM1, hB1⟩
              case measure => simp [intOf]; omega
            | false =>
              cases P1 : lt.isPrefixOf (s.data.toList.drop k) with
              | true =>
                have hr : readL (s.data.toList.drop k) = some (60, 4) := readL_lt _ P0 P1
                have hF : fnd (s.data.toList.drop k) 4 = 1 := by simp [fnd, P0, P1, no_gt_of_lt P1, no_quot_of_lt P1]
                have hn := readL_le _ _ _ hr
                rw [drop_len] at hn
                have hn2 : k + 4 ≤ s.size := by omega
                have HS : Hid (Reads s (k + 4) (acc ++ [60])) := reads_step HR.out hlt hr
                clear hr hn P0 P1
                rw [hF]
                clear hF
                have hown0 : (wr.drewN d).ownsRow w'.heap.size 5 1 u4 acc.length (Lib.byteCells acc) := hown
                have hM0 : (wr.drewN d).heap[w'.heap.size + 1]? = some marksObj := hM
                have hB0 : Below w'.heap.size w' (wr.drewN d) := ⟨hB.os, hB.tape, hB.output, hB.size, hB.block⟩
                go_wp2_with (at_builtin; refine wpList_append_own _ rfl _ _ 22 rfl w'.heap.size 5 i0 (.int .u8 0) 1 1 Tryz.underlying22 hi hz0 hz1 hz2 rfl (by decide) _ _ _ rfl (hown0.alloc _) ⟨wr.heap.size, 0, none⟩ 1 1 [.int .u8 60] rfl rfl (one_cellE _ _) (one_one _) (by unfold maxLen; omega) (by omega) (by simp; omega) ?_)
                intro v' w1 hown' hgrow _
                have hM1 := marks_kept (marks_alloc _ hM0) (hown0.alloc _) hgrow
                have hB1 := (hB0.alloc hsz _).grown hgrow (by simp; omega) (fun k hk => (hown0.lt k hk).1)
                have mm : w1.cell? ⟨w'.heap.size + 1, 1, none⟩ = some (.string ⟨#[38, 108, 116, 59]⟩) := by rw [Lib.cell_of_heap hM1]; rfl
                have R : w1.ownsRow w'.heap.size 5 1 v' (acc ++ [60]).length (Lib.byteCells (acc ++ [60])) := by rw [byteCells_snoc, List.length_append]; exact hown'
                clear hown' hgrow hown hown0 hM hM0 hB0 m0 m1 m2 m3
                go_wp2
                go_roundw
                case rel => exact ⟨k + 4, acc ++ [60], by omega, by go_num, HS.out, R, hM1, hB1⟩
                case measure => simp [intOf]; omega
              | false =>
                cases P2 : gt.isPrefixOf (s.data.toList.drop k) with
                | true =>
                  have hr : readL (s.data.toList.drop k) = some (62, 4) := readL_gt _ P0 P1 P2
                  have hF : fnd (s.data.toList.drop k) 4 = 2 := by simp [fnd, P0, P1, P2, no_quot_of_gt P2]
                  have hn := readL_le _ _ _ hr
                  rw [drop_len] at hn
                  have hn2 : k + 4 ≤ s.size := by omega
                  have HS : Hid (Reads s (k + 4) (acc ++ [62])) := reads_step HR.out hlt hr
                  clear hr hn P0 P1 P2
                  rw [hF]
                  clear hF
                  have hown0 : (wr.drewN d).ownsRow w'.heap.size 5 1 u4 acc.length (Lib.byteCells acc) := hown
                  have hM0 : (wr.drewN d).heap[w'.heap.size + 1]? = some marksObj := hM
                  have hB0 : Below w'.heap.size w' (wr.drewN d) := ⟨hB.os, hB.tape, hB.output, hB.size, hB.block⟩
                  go_wp2_with (at_builtin; refine wpList_append_own _ rfl _ _ 22 rfl w'.heap.size 5 i0 (.int .u8 0) 1 1 Tryz.underlying22 hi hz0 hz1 hz2 rfl (by decide) _ _ _ rfl (hown0.alloc _) ⟨wr.heap.size, 0, none⟩ 1 1 [.int .u8 62] rfl rfl (one_cellE _ _) (one_one _) (by unfold maxLen; omega) (by omega) (by simp; omega) ?_)
                  intro v' w1 hown' hgrow _
                  have hM1 := marks_kept (marks_alloc _ hM0) (hown0.alloc _) hgrow
                  have hB1 := (hB0.alloc hsz _).grown hgrow (by simp; omega) (fun k hk => (hown0.lt k hk).1)
                  have mm : w1.cell? ⟨w'.heap.size + 1, 2, none⟩ = some (.string ⟨#[38, 103, 116, 59]⟩) := by rw [Lib.cell_of_heap hM1]; rfl
                  have R : w1.ownsRow w'.heap.size 5 1 v' (acc ++ [62]).length (Lib.byteCells (acc ++ [62])) := by rw [byteCells_snoc, List.length_append]; exact hown'
                  clear hown' hgrow hown hown0 hM hM0 hB0 m0 m1 m2 m3
                  go_wp2
                  go_roundw
                  case rel => exact ⟨k + 4, acc ++ [62], by omega, by go_num, HS.out, R, hM1, hB1⟩
                  case measure => simp [intOf]; omega
                | false =>
                  cases P3 : quot.isPrefixOf (s.data.toList.drop k) with
                  | true =>
                    have hr : readL (s.data.toList.drop k) = some (34, 6) := readL_quot _ P0 P1 P2 P3
                    have hF : fnd (s.data.toList.drop k) 4 = 3 := by simp [fnd, P0, P1, P2, P3]
                    have hn := readL_le _ _ _ hr
                    rw [drop_len] at hn
                    have hn2 : k + 6 ≤ s.size := by omega
                    have HS : Hid (Reads s (k + 6) (acc ++ [34])) := reads_step HR.out hlt hr
                    clear hr hn P0 P1 P2 P3
                    rw [hF]
                    clear hF
                    have hown0 : (wr.drewN d).ownsRow w'.heap.size 5 1 u4 acc.length (Lib.byteCells acc) := hown
                    have hM0 : (wr.drewN d).heap[w'.heap.size + 1]? = some marksObj := hM
                    have hB0 : Below w'.heap.size w' (wr.drewN d) := ⟨hB.os, hB.tape, hB.output, hB.size, hB.block⟩
                    go_wp2_with (at_builtin; refine wpList_append_own _ rfl _ _ 22 rfl w'.heap.size 5 i0 (.int .u8 0) 1 1 Tryz.underlying22 hi hz0 hz1 hz2 rfl (by decide) _ _ _ rfl (hown0.alloc _) ⟨wr.heap.size, 0, none⟩ 1 1 [.int .u8 34] rfl rfl (one_cellE _ _) (one_one _) (by unfold maxLen; omega) (by omega) (by simp; omega) ?_)
                    intro v' w1 hown' hgrow _
                    have hM1 := marks_kept (marks_alloc _ hM0) (hown0.alloc _) hgrow
                    have hB1 := (hB0.alloc hsz _).grown hgrow (by simp; omega) (fun k hk => (hown0.lt k hk).1)
                    have mm : w1.cell? ⟨w'.heap.size + 1, 3, none⟩ = some (.string ⟨#[38, 113, 117, 111, 116, 59]⟩) := by rw [Lib.cell_of_heap hM1]; rfl
                    have R : w1.ownsRow w'.heap.size 5 1 v' (acc ++ [34]).length (Lib.byteCells (acc ++ [34])) := by rw [byteCells_snoc, List.length_append]; exact hown'
                    clear hown' hgrow hown hown0 hM hM0 hB0 m0 m1 m2 m3
                    go_wp2
                    go_roundw
                    case rel => exact ⟨k + 6, acc ++ [34], by omega, by go_num, HS.out, R, hM1, hB1⟩
                    case measure => simp [intOf]; omega
                  | false =>
                    have hF : fnd (s.data.toList.drop k) 4 = -1 := by simp [fnd, P0, P1, P2, P3]
                    have hr : readL (s.data.toList.drop k) = none := by
                      rw [HL.out] at P0 P1 P2 P3 ⊢
                      exact readL_none _ _ (by have := HC.out; omega) P0 P1 P2 P3
                    have HU : Hid (unescL s.data.toList = none) := reads_none HR.out hlt HP.out hr
                    clear hr P0 P1 P2 P3
                    rw [hF]
                    clear hF
                    go_wp2
                    go_ret2
                    exact ⟨by rw [HU.out]; rfl, ⟨hB.os, hB.tape, hB.output, hB.size, hB.block⟩⟩
      · have hr : readL (s.data.toList.drop k) = some (s[k], 1) := by rw [hcons]; exact readL_plain _ _ (by omega)
        have HS : Hid (Reads s (k + 1) (acc ++ [s[k]])) := reads_step HR.out hlt hr
        clear hr hcons m0 m1 m2 m3
        go_wp2_with (at_builtin; refine wpList_append_own _ rfl _ _ 22 rfl w'.heap.size 5 i0 (.int .u8 0) 1 1 Tryz.underlying22 hi hz0 hz1 hz2 rfl (by decide) _ _ _ rfl (hown.alloc _) ⟨wr.heap.size, 0, none⟩ 1 1 [.int .u8 s[k].toNat] rfl rfl (one_cellE _ _) (one_one _) (by unfold maxLen; omega) (by omega) (by simp; omega) ?_)
        intro v' w1 hown' hgrow _
        have hM1 := marks_kept (marks_alloc _ hM) (hown.alloc _) hgrow
        have hB1 := (hB.alloc hsz _).grown hgrow (by simp; omega) (fun k hk => (hown.lt k hk).1)
        have R : w1.ownsRow w'.heap.size 5 1 v' (acc ++ [s[k]]).length (Lib.byteCells (acc ++ [s[k]])) := by rw [byteCells_snoc, List.length_append]; exact hown'
        clear hown' hgrow hown hM
        go_wp2
        go_roundw
        case rel => exact ⟨k + 1, acc ++ [s[k]], by omega, by go_num, HS.out, R, hM1, hB1⟩
        case measure => simp [intOf]; omega
    · have HU : Hid (unescL s.data.toList = some acc) := reads_end HR.out hlt HP.out
      have hrr := run_str_own (P := Tryz.prog) (src := 22) (dst := 9) Tryz.underlying22 Tryz.underlying5 Tryz.underlying9 hown
      clear hown hM m0 m1 m2 m3
      go_wp2
      go_ret2
      exact ⟨by rw [HU.out]; rfl, hB⟩

theorem c_spec_Unescaped (s : ByteArray) (w : World) (h0 : s.size ≤ 1048576) :
    Calls Tryz.prog 113 #[.string s] w fun e w' => e = .returned (.tuple #[.string ⟨(outU (unescL s.data.toList)).toArray⟩, .bool (unescL s.data.toList).isSome]) ∧ Below w.heap.size w w' := by
  cases hp : plainL s.data.toList
  · exact c_spec_Unescaped_no s w h0 hp
  · exact c_spec_Unescaped_yes s w h0 hp

end Go.Proofs.YteninofjeidljaaGreat

namespace Go.Proofs.YteninofjeidljaaGreat

open Go.RowKit

set_option linter.unusedVariables false

set_option linter.unusedSimpArgs false

/-- append onto a row of the call's own, as one step of a region that draws its order. -/
theorem step_app7 {P : Program} {ops : Array Oper} {o : Oper} {a : Act} {w : World} {K : Act → World → Prop} {Q : Exit → Act → World → Prop} {E : Prop}
    (hg : o.guard = none) (s x : Operand) (t : TypeId) (hop : o.op = Op.call { callee := Callee.builtin Builtin.append, args := #[s, x], argTypes := #[t, t] })
    (base : Nat) (e : TypeId) (i : TypeInfo) (z : Value) (size bytes : Nat) (h1 : P.underlying t = some (.slice e)) (h2 : P.info? e = some i) (h3 : i.zero = some z) (h4 : i.size = size) (h5 : i.bytes = bytes) (h6 : z.cells.size = size) (h7 : 0 < size)
    (v : Value) (n : Nat) (xs : List Value) (hs : a.eval s = v) (hown : w.ownsRow base e size v n xs)
    (ad : Addr) (m c : Nat) (news : List Value) (hx : a.eval x = .slice (some ad) m c) (hn : news.length = m * size) (hc : ∀ j u, news[j]? = some u → w.cell? (ad.add j) = some u) (h1c : ∀ u ∈ news, u.oneCell' = true)
    (b1 : n + m ≤ maxLen) (b2 : (n + m) * bytes ≤ 140737488355328) (b3 : base ≤ w.heap.size)
    (hK : ∀ v' w', w'.ownsRow base e size v' (n + m) (xs ++ news) → w.grownBy w' v.ownBlock → K (a.put o.dst v') w') :
    if Region.wanted o (yielded ops a.tmps) = true then Oper.wp P o a w K Q else E := by
  have hw : Region.wanted o (yielded ops a.tmps) = true := by simp [Region.wanted, hg]
  rw [if_pos hw]
  obtain ⟨v', w', hrun, r1, r2, r3⟩ := run_append_own (P := P) w base t o.type e i z size bytes h1 h2 h3 h4 h5 h6 h7 v n xs hown ad m c news hn hc h1c b1 b2 b3
  unfold Oper.wp
  simp [execOp, hop, resolve, invoke, builtin, hs, hx, hrun, Result.andThen]
  exact hK v' w' r1 r2

/-- What an opening tag is, by what its attrs are. -/
theorem tag_open {l : List UInt8} (h : ¬ (l.drop 1).head? = some 47) {V : Option (List At × List UInt8)} (hV : atL (l.length + 1) (restL [32, 47, 62] (l.drop 1)) [] = V) :
    (V = none → tagL l = none) ∧ (∀ ats q, V = some (ats, q) → q.head? = some 62 → tagL l = some (⟨1, bytesOf (tillL [32, 47, 62] (l.drop 1)), ats, ⟨#[]⟩⟩, false, q.drop 1))
    ∧ (∀ ats q, V = some (ats, q) → ¬ q.head? = some 62 → q.take 2 = [47, 62] → tagL l = some (⟨1, bytesOf (tillL [32, 47, 62] (l.drop 1)), ats, ⟨#[]⟩⟩, true, q.drop 2))
    ∧ (∀ ats q, V = some (ats, q) → ¬ q.head? = some 62 → ¬ q.take 2 = [47, 62] → tagL l = none) := by
  subst hV
  refine ⟨fun e => ?_, fun ats q e h1 => ?_, fun ats q e h1 h2 => ?_, fun ats q e h1 h2 => ?_⟩
  · unfold tagL; rw [if_neg h, e]
  · unfold tagL; rw [if_neg h, e]; simp only [if_pos h1]
  · unfold tagL; rw [if_neg h, e]; simp only [if_neg h1, if_pos h2]
  · unfold tagL; rw [if_neg h, e]; simp only [if_neg h1, if_neg h2]

theorem AtRow.setCellO {w : World} {a : Option Addr} {l : List At} (h : AtRow w a l) {p : Addr} (hne : ∀ g o, a = some ⟨g, o, none⟩ → ¬ g = p.block) (v : Value) : AtRow (w.setCell p v) a l := by
  intro j hj
  obtain ⟨b, o, e, hlt, c1, c2⟩ := h j hj
  have hb := Below.heap_setCell w p v b (hne b o e)
  exact ⟨b, o, e, lt_of_heap (hb.trans (Array.getElem?_eq_getElem hlt)), by rw [World.cell?_of_block (w := w) hb]; exact c1, by rw [World.cell?_of_block (w := w) hb]; exact c2⟩

/-- A row that is owned is a slice of its length. -/
theorem own_slice {w : World} {B : Nat} {e : TypeId} {size : Nat} {v : Value} {n : Nat} {xs : List Value} (h : w.ownsRow B e size v n xs) : ∃ a c, v = .slice a n c := by
  rcases h.2 with ⟨rfl, h0⟩ | ⟨g, cap, _, rfl, _⟩
  · exact ⟨none, 0, by rw [h0]⟩
  · exact ⟨_, cap, rfl⟩

/-- What the loop over attrs knows. -/
structure TagSt (s : ByteArray) (w1 : World) (name : ByteArray) (V : Option (List At × List UInt8)) (j : Nat) (wr : World) (f : Nat) (acc : List At) (v : Value) : Prop where
  fuel : s.size - j + 1 ≤ f
  val : atL f (s.data.toList.drop j) acc = V
  tok : wr.heap[w1.heap.size]? = some (.cells #[.int .i64 1, .string name, v, .string ⟨#[]⟩] 49 (0, 0))
  own : wr.ownsRow (w1.heap.size + 1) 114 2 v acc.length (atC acc)
  cnt : acc.length ≤ j
  sz : AtSz 1048576 acc
  bel : Below w1.heap.size w1 wr

set_option maxRecDepth 8000 in
set_option maxHeartbeats 8000000 in
theorem cTagOpen (s : ByteArray) (p : Nat) (w : World) (hs : s.size ≤ 4000) (hp : p < s.size) (h0 : s[p] = 60) (h1 : ¬ (s.data.toList.drop (p + 1)).head? = some 47) :
    Calls Tryz.prog 115 #[.string s, .int .i64 p] w (TagPost s p w) := by
  have hlen : s.data.toList.length = s.size := rfl
  have hlp : (s.data.toList.drop p).length = s.size - p := by rw [List.length_drop, hlen]
  obtain ⟨i0, hi, hz0, hz1, hz2⟩ := info_parts infoAt
  have C0 := fun w => cTill s ⟨#[32, 47, 62]⟩ (p + 1) w (by omega) (by omega) (by decide)
  rw [show (⟨#[32, 47, 62]⟩ : ByteArray).data.toList = [32, 47, 62] from rfl] at C0
  have hJ := till_pos_le s [32, 47, 62] (p + 1) (by omega)
  have hr := rest_pos s [32, 47, 62] (p + 1)
  obtain ⟨V, hV⟩ : ∃ V, atL ((s.data.toList.drop p).length + 1) (restL [32, 47, 62] ((s.data.toList.drop p).drop 1)) [] = V := ⟨_, rfl⟩
  have HT := hid (tag_open (by rw [List.drop_drop]; exact h1) hV)
  rw [List.drop_drop] at hV
  obtain ⟨name, hname⟩ : ∃ name, bytesOf (tillL [32, 47, 62] ((s.data.toList.drop p).drop 1)) = name := ⟨_, rfl⟩
  have HNs := hid (show name.size ≤ 4000 by
    rw [← hname, bytesOf_size]
    have := till_le [32, 47, 62] ((s.data.toList.drop p).drop 1)
    rw [List.drop_drop, List.length_drop, hlen] at this
    rw [List.drop_drop]
    omega)
  rw [hname] at HT
  rw [List.drop_drop] at hname
  obtain ⟨J, hJJ⟩ : ∃ J, p + 1 + (tillL [32, 47, 62] (s.data.toList.drop (p + 1))).length = J := ⟨_, rfl⟩
  rw [hJJ] at C0 hJ hr
  have HX := hid (show s.extract (p + 1) J = name by
    rw [← hname]
    refine ext_bytes s (p + 1) J _ ?_
    have := till_take [32, 47, 62] (s.data.toList.drop (p + 1))
    rw [show J - (p + 1) = (tillL [32, 47, 62] (s.data.toList.drop (p + 1))).length by omega]
    exact this.symm)
  rw [hr, hlp] at hV
  have HV := hid hV
  have hpJ : p + 1 ≤ J := by omega
  have hsl := slS s ((p : Int) + 1) (J : Int) (p + 1) J (by omega) rfl hpJ (by omega)
  have HB0 := hid ((((Below.refl w.heap.size w).alloc (Nat.le_refl _) (.cells #[.int .i64 0, .string ⟨#[]⟩, .slice none 0 0, .string ⟨#[]⟩] 49)).alloc (by simp) (.cells #[.int .i64 0, .string ⟨#[]⟩, .slice none 0 0, .string ⟨#[]⟩] 49)))
  clear hV hname hJJ hr hlp
  have hguard : (p + 1 < s.size ∧ ∃ h : p + 1 < s.size, ¬ s[p + 1] = 47) ∨ ¬ p + 1 < s.size := by
    rcases Nat.lt_or_ge (p + 1) s.size with h | h
    · exact .inl ⟨h, h, fun e => h1 (by rw [head_at s (p + 1) h, e])⟩
    · exact .inr (by omega)
  clear h1 h0
  rcases hguard with hgd | hgd
  all_goals first
    | (obtain ⟨hg1, _, hg2⟩ := hgd
       have hdp : decide ((p : Int) + 1 < (s.size : Int)) = true := decide_eq_true (by omega)
       have b1 := (byte_f (n := 47) rfl hg2).1)
    | (have hdp : decide ((p : Int) + 1 < (s.size : Int)) = false := decide_eq_false (by omega))
  all_goals
    go_enter Tryz.func115, Tryz.ntmps115
    go_wp2_with fail
    refine (C0 _).mono ?_
    rintro e w1 ⟨rfl, hb1⟩
    have HB1 := hid (bb HB0.out hb1)
    have HR1 := hid (blk_below (heap2 w _ _).1 hb1)
    have HZ1 := hid (blk_below (heap2 w _ _).2 hb1)
    have hw1 : w.heap.size + 1 < w1.heap.size := lt_of_heap HZ1.out
    clear hb1 HB0 C0
    have ST0 := hid (show TagSt s w1 name V J (w1.alloc (.cells #[.int .i64 1, .string name, .slice none 0 0, .string ⟨#[]⟩] 49)) (s.size - p + 1) [] (.slice none 0 0) from
      ⟨by omega, HV.out, heap_alloc_new w1 _, World.ownsRow_nil _ _ _ _, Nat.zero_le _, fun x hx => absurd hx List.not_mem_nil, (Below.refl _ _).alloc (Nat.le_refl _) _⟩)
    have hXX := HX.out
    go_wp2_with fail
    clear hXX hsl
    go_loopw [9] (fun x wr => ∃ (j f : Nat) (acc : List At) (v : Value), x = .int .i64 (j : Int) ∧ j ≤ s.size ∧ Hid (TagSt s w1 name V j wr f acc v)) (fun x _ => s.size - (intOf x).toNat)
    case atStart => exact ⟨J, _, [], _, rfl, hJ, ST0.out⟩
    case round =>
      clear ST0
      obtain ⟨j, f, acc, v, rfl, hj, ST⟩ := hrel
      obtain ⟨f, rfl⟩ : ∃ f', f = f' + 1 := ⟨f - 1, by have := ST.out.fuel; omega⟩
      by_cases hbl : ∃ h : j < s.size, s[j] = 32
      · obtain ⟨hjl, hj32⟩ := hbl
        have hh : (s.data.toList.drop j).head? = some 32 := by rw [head_at s j hjl, hj32]
        have hd9 : decide ((j : Int) < (s.size : Int)) = true := decide_eq_true (by omega)
        have b9 := (byte_t (n := 32) rfl hj32).1
        have CE := fun w => cTill s ⟨#[61]⟩ j w (by omega) (by omega) (by decide)
        rw [show (⟨#[61]⟩ : ByteArray).data.toList = [61] from rfl] at CE
        have hE := till_pos_le s [61] j (by omega)
        have hrE := rest_pos s [61] j
        have htE := till_take [61] (s.data.toList.drop j)
        have hE1 : 1 ≤ (tillL [61] (s.data.toList.drop j)).length := by rw [drop_at s j hjl, hj32, till_cons_out (by decide)]; simp
        obtain ⟨E, hEE⟩ : ∃ E, j + (tillL [61] (s.data.toList.drop j)).length = E := ⟨_, rfl⟩
        rw [hEE] at CE hE hrE
        have hjE : j + 1 ≤ E := by omega
        have HNM := hid (show s.extract (j + 1) E = bytesOf ((tillL [61] (s.data.toList.drop j)).drop 1) from ext_bytes s (j + 1) E _ (by
          rw [htE, List.drop_take, List.drop_drop]
          congr 1
          omega))
        clear htE
        have HNZ := hid (show (bytesOf ((tillL [61] (s.data.toList.drop j)).drop 1)).size ≤ 1048576 by
          rw [bytesOf_size, List.length_drop]
          omega)
        go_wp2_with fail
        refine (CE _).mono ?_
        rintro e w2 ⟨rfl, hb2⟩
        have HB2 := hid (bb ST.out.bel hb2)
        have HT2 := hid (blk_below ST.out.tok hb2)
        have HO2 := hid (ownsRow_below ST.out.own hb2)
        clear hb2 CE b9 hd9
        by_cases hq1 : ∃ h : E + 1 < s.size, s[E + 1] = 34
        · obtain ⟨hE2, hE34⟩ := hq1
          have hEl : s[E] = 61 := by
            have := rest_head [61] (s.data.toList.drop j) s[E] (by rw [hrE, head_at s E (by omega)])
            simpa using this
          have ht2 : (restL [61] (s.data.toList.drop j)).take 2 = [61, 34] := by rw [hrE]; exact (take2_iff s E 61 34).2 ⟨hE2, hEl, hE34⟩
          have hd11 : decide ((s.size : Int) ≤ (E : Int) + 1) = false := decide_eq_false (by omega)
          have b11 := (byte_t (n := 34) rfl hE34).2
          have hdr : (restL [61] (s.data.toList.drop j)).drop 2 = s.data.toList.drop (E + 2) := by rw [hrE, List.drop_drop]
          have CP := fun w => cTill s ⟨#[34, 60]⟩ (E + 2) w (by omega) (by omega) (by decide)
          rw [show (⟨#[34, 60]⟩ : ByteArray).data.toList = [34, 60] from rfl] at CP
          have hP := till_pos_le s [34, 60] (E + 2) (by omega)
          have hrP := rest_pos s [34, 60] (E + 2)
          have htP := till_take [34, 60] (s.data.toList.drop (E + 2))
          obtain ⟨raw, hraw⟩ : ∃ raw, tillL [34, 60] (s.data.toList.drop (E + 2)) = raw := ⟨_, rfl⟩
          rw [hraw] at CP hP hrP htP
          obtain ⟨P, hPP⟩ : ∃ P, E + 2 + raw.length = P := ⟨_, rfl⟩
          rw [hPP] at CP hP hrP
          have e2 : ((E : Int) + 2) = ((E + 2 : Nat) : Int) := by omega
          rw [← e2] at CP
          have HTP := hid htP
          have HRP := hid hrP
          have HRE := hid hrE
          have HDR := hid hdr
          have HT22 := hid ht2
          have HRAW := hid hraw
          have HHH := hid hh
          clear e2 htP hrP hrE hdr ht2 hraw hh hEE
          go_wp2_with fail
          refine (CP _).mono ?_
          rintro e w3 ⟨rfl, hb3⟩
          have HB3 := hid (bb HB2.out hb3)
          have HT3 := hid (blk_below HT2.out hb3)
          have HO3 := hid (ownsRow_below HO2.out hb3)
          clear hb3 CP b11 hd11 HB2 HT2 HO2
          by_cases hq2 : ∃ h : P < s.size, s[P] = 34
          · obtain ⟨hPl, hP34⟩ := hq2
            have hhP : (restL [34, 60] ((restL [61] (s.data.toList.drop j)).drop 2)).head? = some 34 := by rw [HDR.out, HRP.out, head_at s P hPl, hP34]
            have hd14 : ((P : Int) == (s.size : Int)) = false := by simp; omega
            have b14 := (byte_t (n := 34) rfl hP34).2
            have hxl : (s.extract (E + 2) P).data.toList = raw := by
              have h1 := HTP.out
              rw [ext_list7, show P - (E + 2) = raw.length by omega]
              exact h1.symm
            have CU := fun w => c_spec_Unescaped (s.extract (E + 2) P) w (by
              have : (s.extract (E + 2) P).size = raw.length := by rw [← hxl]; rfl
              omega)
            rw [hxl] at CU
            have hsl16 := slS s ((E : Int) + 2) (P : Int) (E + 2) P (by omega) rfl (by omega) (by omega)
            cases hu : unescL raw with
            | none =>
              rw [hu] at CU
              have HN := hid (show V = none by rw [← ST.out.val]; exact atL_bad3 HHH.out HT22.out hhP (by rw [HDR.out, HRAW.out]; exact hu))
              go_wp2_with fail
              refine (CU _).mono ?_
              rintro e w4 ⟨rfl, hb4⟩
              have HB4 := hid (bb HB3.out hb4)
              clear hb4 CU
              obtain ⟨⟨r0, r1, r2, r3⟩, rf0, rf1, rf2, rf3⟩ := box4 (blk_below HR1.out HB4.out)
              obtain ⟨⟨z0, z1, z2, z3⟩, _⟩ := box4 (blk_below HZ1.out HB4.out)
              have HBn := hid (bb HB1.out HB4.out)
              go_wp2_with fail
              refine bodyPost_ret (v := .tuple #[tkZ, .bool false, .int .i64 (-1)]) (by simp [results, Tryz.results115, go_sem, r0, r1, r2, r3]) rfl (tagPost_none (HT.out.1 HN.out) rfl ?_)
              iterate 4 refine Below.setCell ?_ (by simp; try omega) _
              exact HBn.out
            | some u =>
              rw [hu] at CU
              have HUZ := hid (show (bytesOf u).size ≤ 1048576 by
                rw [bytesOf_size]
                have := unesc_le hu
                omega)
              have HNX := hid (show atL f (s.data.toList.drop (P + 1)) (acc ++ [⟨bytesOf ((tillL [61] (s.data.toList.drop j)).drop 1), bytesOf u⟩]) = V by
                rw [← ST.out.val, atL_step HHH.out HT22.out hhP (by rw [HDR.out, HRAW.out]; exact hu), HDR.out, HRP.out, List.drop_drop])
              have hUe : (⟨(outU (some u)).toArray⟩ : ByteArray) = bytesOf u := rfl
              rw [hUe] at CU
              obtain ⟨U, hUU⟩ : ∃ U, bytesOf u = U := ⟨_, rfl⟩
              obtain ⟨NM, hNM⟩ : ∃ NM, bytesOf ((tillL [61] (s.data.toList.drop j)).drop 1) = NM := ⟨_, rfl⟩
              rw [hUU] at CU HUZ HNX
              rw [hNM] at HNM HNZ HNX
              go_wp2_with fail
              refine (CU _).mono ?_
              rintro e w4 ⟨rfl, hb4⟩
              have HB4 := hid (bb HB3.out hb4)
              have HT4 := hid (blk_below HT3.out hb4)
              have HO4 := hid (ownsRow_below HO3.out hb4)
              clear hb4 CU hsl16 hd14 b14 HB3 HT3 HO3 hu hUU hNM hUe hxl
              obtain ⟨⟨t0, t1, t2, t3⟩, tf0, tf1, tf2, tf3⟩ := box4 HT4.out
              have hsl19 := slS s ((j : Int) + 1) (E : Int) (j + 1) E (by omega) rfl hjE (by omega)
              rw [HNM.out] at hsl19
              have hw19 : IntKind.i64.wrap ((j : Int) + 1) = (j : Int) + 1 := IntWalk.i64_in _ (by omega)
              have hcnt := ST.out.cnt
              have hw4 : w1.heap.size < w4.heap.size := lt_of_heap HT4.out
              have HOd := hid (show (w4.drew.alloc (.cells #[.string NM, .string U] 114)).ownsRow (w1.heap.size + 1) 114 2 v acc.length (atC acc) from (HO4.out.drew).alloc _)
              have hown : ∀ k, v.ownBlock = some k → w1.heap.size + 1 ≤ k := fun k hk => (HO4.out.lt k hk).1
              have HOW := hid hown
              clear hown
              go_wp2_with fail
              go_region_law (refine step_app7 rfl (.tmp 108) (.tmp 116) 40 rfl (w1.heap.size + 1) 114 i0 _ 2 32 Tryz.underlying40 hi hz0 hz1 hz2 rfl (by decide) v acc.length (atC acc) (by simp [Act.eval, Act.put]) HOd.out ⟨w4.heap.size, 0, none⟩ 1 1 [.string NM, .string U] (by simp [Act.eval, Act.put]) rfl (two_cells w4.drew _ _ _) (two_one NM U) (by unfold maxLen; omega) (by omega) (by show w1.heap.size + 1 ≤ (w4.drew.alloc (.cells #[.string NM, .string U] 114)).heap.size; simp; omega) ?_; intro v' w5 ho' hg'; obtain ⟨a', c', hv'⟩ := own_slice ho'; subst hv'; have HT5 := hid (show w5.heap[w1.heap.size]? = some (.cells #[.int .i64 1, .string name, v, .string ⟨#[]⟩] 49 (0, 0)) from ((hg'.block w1.heap.size (by show w1.heap.size < (w4.drew.alloc (.cells #[.string NM, .string U] 114)).heap.size; simp; omega) (fun e => by have := HOW.out _ e.symm; omega)).trans ((Below.heap_alloc w4.drew _ w1.heap.size hw4).trans HT4.out))); obtain ⟨⟨u0, u1, u2, u3⟩, uf0, uf1, uf2, uf3⟩ := box4 HT5.out)
              all_goals (
                have HB5 := hid (show Below w1.heap.size w1 w5 from ((HB4.out.drew).alloc (by show w1.heap.size ≤ w4.heap.size; omega) (.cells #[.string NM, .string U] 114)).grown hg' (by show w1.heap.size ≤ (w4.drew.alloc (.cells #[.string NM, .string U] 114)).heap.size; simp; omega) (fun k e => by have := HOW.out k e; omega))
                have HS6 := hid (show TagSt s w1 name V (P + 1) (w5.setCell ⟨w1.heap.size, 2, none⟩ (.slice a' (acc.length + 1) c')) f (acc ++ [⟨NM, U⟩]) (.slice a' (acc.length + 1) c') from
                  ⟨by have := ST.out.fuel; omega, HNX.out, heap_set (i := 2) HT5.out (.slice a' (acc.length + 1) c'), by
                    rw [List.length_append, atC_snoc]
                    exact ho'.kept (Lib.grownBy_setCell w5 w1.heap.size 2 (.slice a' (acc.length + 1) c')) (.inr (fun e => by have := (ho'.lt _ e).1; omega)), by rw [List.length_append]; show acc.length + 1 ≤ P + 1; omega, fun x hx => by
                    rcases List.mem_append.1 hx with h | h
                    · exact ST.out.sz x h
                    · rw [List.mem_singleton] at h
                      subst h
                      exact ⟨HNZ.out, HUZ.out⟩, HB5.out.setCell (p := ⟨w1.heap.size, 2, none⟩) (Nat.le_refl _) _⟩)
                clear ho' hg' HB5 HT5
                try (go_wp2_with fail))
              all_goals (refine ⟨⟨P + 1, f, acc ++ [⟨NM, U⟩], .slice a' (acc.length + 1) c', by go_num, by omega, HS6⟩, by simp [intOf]; omega⟩)
          · have HN := hid (show V = none by
              rw [← ST.out.val]
              refine atL_bad2 HHH.out HT22.out (fun e => hq2 ?_)
              rw [HDR.out, HRP.out] at e
              exact (head_iff s P 34).1 e)
            by_cases hPs : P < s.size
            · have hd14 : ((P : Int) == (s.size : Int)) = false := by simp; omega
              have b14 := (byte_f (n := 34) rfl (fun e => hq2 ⟨hPs, e⟩)).2
              obtain ⟨⟨r0, r1, r2, r3⟩, rf0, rf1, rf2, rf3⟩ := box4 (blk_below HR1.out HB3.out)
              obtain ⟨⟨z0, z1, z2, z3⟩, _⟩ := box4 (blk_below HZ1.out HB3.out)
              have HBn := hid (bb HB1.out HB3.out)
              go_wp2_with fail
              refine bodyPost_ret (v := .tuple #[tkZ, .bool false, .int .i64 (-1)]) (by simp [results, Tryz.results115, go_sem, r0, r1, r2, r3]) rfl (tagPost_none (HT.out.1 HN.out) rfl ?_)
              iterate 4 refine Below.setCell ?_ (by simp; try omega) _
              exact HBn.out
            · have hd14 : ((P : Int) == (s.size : Int)) = true := by simp; omega
              obtain ⟨⟨r0, r1, r2, r3⟩, rf0, rf1, rf2, rf3⟩ := box4 (blk_below HR1.out HB3.out)
              obtain ⟨⟨z0, z1, z2, z3⟩, _⟩ := box4 (blk_below HZ1.out HB3.out)
              have HBn := hid (bb HB1.out HB3.out)
              go_wp2_with fail
              refine bodyPost_ret (v := .tuple #[tkZ, .bool false, .int .i64 (-1)]) (by simp [results, Tryz.results115, go_sem, r0, r1, r2, r3]) rfl (tagPost_none (HT.out.1 HN.out) rfl ?_)
              iterate 4 refine Below.setCell ?_ (by simp; try omega) _
              exact HBn.out
        · have HN := hid (show V = none by
            rw [← ST.out.val]
            refine atL_bad1 hh (fun e => hq1 ?_)
            rw [hrE] at e
            obtain ⟨x, _, y⟩ := (take2_iff s E 61 34).1 e
            exact ⟨x, y⟩)
          by_cases hEs : E + 1 < s.size
          · have hd11 : decide ((s.size : Int) ≤ (E : Int) + 1) = false := decide_eq_false (by omega)
            have b11 := (byte_f (n := 34) rfl (fun e => hq1 ⟨hEs, e⟩)).2
            obtain ⟨⟨r0, r1, r2, r3⟩, rf0, rf1, rf2, rf3⟩ := box4 (blk_below HR1.out HB2.out)
            obtain ⟨⟨z0, z1, z2, z3⟩, _⟩ := box4 (blk_below HZ1.out HB2.out)
            have HBn := hid (bb HB1.out HB2.out)
            go_wp2_with fail
            refine bodyPost_ret (v := .tuple #[tkZ, .bool false, .int .i64 (-1)]) (by simp [results, Tryz.results115, go_sem, r0, r1, r2, r3]) rfl (tagPost_none (HT.out.1 HN.out) rfl ?_)
            iterate 4 refine Below.setCell ?_ (by simp; try omega) _
            exact HBn.out
          · have hd11 : decide ((s.size : Int) ≤ (E : Int) + 1) = true := decide_eq_true (by omega)
            obtain ⟨⟨r0, r1, r2, r3⟩, rf0, rf1, rf2, rf3⟩ := box4 (blk_below HR1.out HB2.out)
            obtain ⟨⟨z0, z1, z2, z3⟩, _⟩ := box4 (blk_below HZ1.out HB2.out)
            have HBn := hid (bb HB1.out HB2.out)
            go_wp2_with fail
            refine bodyPost_ret (v := .tuple #[tkZ, .bool false, .int .i64 (-1)]) (by simp [results, Tryz.results115, go_sem, r0, r1, r2, r3]) rfl (tagPost_none (HT.out.1 HN.out) rfl ?_)
            iterate 4 refine Below.setCell ?_ (by simp; try omega) _
            exact HBn.out
      · have hh : ¬ (s.data.toList.drop j).head? = some 32 := fun e => hbl ((head_iff s j 32).1 e)
        have HVS := hid (show V = some (acc, s.data.toList.drop j) by rw [← ST.out.val]; exact atL_end hh)
        obtain ⟨a, cap, hva, har, hag⟩ := own_atRow ST.out.own
        have HAR := hid har
        have HAG := hid hag
        have HTK := hid ST.out.tok
        rw [hva] at HTK
        have HBE := hid ST.out.bel
        have HSZ := hid (show TkSz 1048576 ⟨1, name, acc, ⟨#[]⟩⟩ from ⟨by show name.size ≤ 1048576; have := HNs.out; omega, by show acc.length ≤ 1048576; have := ST.out.cnt; omega, ST.out.sz, by show 0 ≤ 1048576; omega⟩)
        obtain ⟨⟨t0, t1, t2, t3⟩, _⟩ := box4 HTK.out
        obtain ⟨⟨r0, r1, r2, r3⟩, rf0, rf1, rf2, rf3⟩ := box4 (blk_below HR1.out HBE.out)
        obtain ⟨⟨z0, z1, z2, z3⟩, _⟩ := box4 (blk_below HZ1.out HBE.out)
        have HBn := hid (bb HB1.out HBE.out)
        clear har hag hva hh ST
        have hn9 : (decide ((j : Int) < (s.size : Int)) = false) ∨ (decide ((j : Int) < (s.size : Int)) = true ∧ ∃ h : j < s.size, ¬ s[j] = 32) := by
          rcases Nat.lt_or_ge j s.size with h | h
          · exact .inr ⟨decide_eq_true (by omega), h, fun e => hbl ⟨h, e⟩⟩
          · exact .inl (decide_eq_false (by omega))
        clear hbl
        rcases hn9 with hd9 | ⟨hd9, hjl, hne⟩
        · have hge : s.size ≤ j := by simpa using hd9
          have HN := hid (show tagL (s.data.toList.drop p) = none from HT.out.2.2.2 acc _ HVS.out (by rw [head_end s j hge]; intro e; cases e) (by rw [drop_end s j hge]; intro e; cases e))
          have hd23 : decide ((j : Int) + 1 < (s.size : Int)) = false := decide_eq_false (by omega)
          go_wp2_with fail
          refine bodyPost_ret (v := .tuple #[tkZ, .bool false, .int .i64 (-1)]) (by simp [results, Tryz.results115, go_sem, r0, r1, r2, r3]) rfl (tagPost_none HN.out rfl ?_)
          iterate 4 refine Below.setCell ?_ (by simp; try omega) _
          exact HBn.out
        · have b9 := (byte_f (n := 32) rfl hne).1
          by_cases h62 : s[j] = 62
          · have b21 := (byte_t (n := 62) rfl h62).1
            have HS := hid (HT.out.2.1 acc _ HVS.out (by rw [head_at s j hjl, h62]))
            rw [List.drop_drop] at HS
            go_wp2_with fail
            refine bodyPost_ret (v := .tuple #[.agg #[.int .i64 1, .string name, .slice a acc.length cap, .string ⟨#[]⟩], .bool false, .int .i64 ((j : Int) + 1)]) (by simp [results, Tryz.results115, go_sem, r0, r1, r2, r3]) rfl (tagPost_some HS.out (a := a) (cap := cap) ?_ ?_ HSZ.out (fun g o e => by have := HAG.out g o e; omega) ?_)
            · have hn : ((s.size - (s.data.toList.drop (j + 1)).length : Nat) : Int) = (j : Int) + 1 := by rw [List.length_drop, hlen]; omega
              rw [hn]
            · iterate 4 refine AtRow.setCellO ?_ (fun g o e => by have := HAG.out g o e; simp; omega) _
              exact HAR.out
            · iterate 4 refine Below.setCell ?_ (by simp; try omega) _
              exact HBn.out
          · have b21 := (byte_f (n := 62) rfl h62).1
            by_cases hcl : ∃ h : j + 1 < s.size, s[j] = 47 ∧ s[j + 1] = 62
            · obtain ⟨hj1, h47, h62'⟩ := hcl
              have hd23 : decide ((j : Int) + 1 < (s.size : Int)) = true := decide_eq_true (by omega)
              have b23 := (byte_t (n := 47) rfl h47).1
              have b23' := (byte_t (n := 62) rfl h62').1
              have HS := hid (HT.out.2.2.1 acc _ HVS.out (by rw [head_at s j hjl]; intro e; exact h62 (Option.some.inj e)) ((take2_iff s j 47 62).2 ⟨hj1, h47, h62'⟩))
              rw [List.drop_drop] at HS
              go_wp2_with fail
              refine bodyPost_ret (v := .tuple #[.agg #[.int .i64 1, .string name, .slice a acc.length cap, .string ⟨#[]⟩], .bool true, .int .i64 ((j : Int) + 2)]) (by simp [results, Tryz.results115, go_sem, r0, r1, r2, r3]) rfl (tagPost_some HS.out (a := a) (cap := cap) ?_ ?_ HSZ.out (fun g o e => by have := HAG.out g o e; omega) ?_)
              · have hn : ((s.size - (s.data.toList.drop (j + 2)).length : Nat) : Int) = (j : Int) + 2 := by rw [List.length_drop, hlen]; omega
                rw [hn]
              · iterate 4 refine AtRow.setCellO ?_ (fun g o e => by have := HAG.out g o e; simp; omega) _
                exact HAR.out
              · iterate 4 refine Below.setCell ?_ (by simp; try omega) _
                exact HBn.out
            · have HN := hid (show tagL (s.data.toList.drop p) = none from HT.out.2.2.2 acc _ HVS.out (by rw [head_at s j hjl]; intro e; exact h62 (Option.some.inj e)) (fun e => hcl ((take2_iff s j 47 62).1 e)))
              have hfin : (decide ((j : Int) + 1 < (s.size : Int)) = false) ∨ (decide ((j : Int) + 1 < (s.size : Int)) = true ∧ ¬ s[j] = 47) ∨ (decide ((j : Int) + 1 < (s.size : Int)) = true ∧ s[j] = 47 ∧ ∃ h : j + 1 < s.size, ¬ s[j + 1] = 62) := by
                rcases Nat.lt_or_ge (j + 1) s.size with h | h
                · by_cases h47 : s[j] = 47
                  · exact .inr (.inr ⟨decide_eq_true (by omega), h47, h, fun e => hcl ⟨h, h47, e⟩⟩)
                  · exact .inr (.inl ⟨decide_eq_true (by omega), h47⟩)
                · exact .inl (decide_eq_false (by omega))
              clear hcl
              rcases hfin with hd23 | ⟨hd23, h47⟩ | ⟨hd23, h47, hj1, h62'⟩
              · go_wp2_with fail
                refine bodyPost_ret (v := .tuple #[tkZ, .bool false, .int .i64 (-1)]) (by simp [results, Tryz.results115, go_sem, r0, r1, r2, r3]) rfl (tagPost_none HN.out rfl ?_)
                iterate 4 refine Below.setCell ?_ (by simp; try omega) _
                exact HBn.out
              · have b23 := (byte_f (n := 47) rfl h47).1
                have hj1 : j + 1 < s.size := by
                  have := of_decide_eq_true hd23
                  omega
                go_wp2_with fail
                refine bodyPost_ret (v := .tuple #[tkZ, .bool false, .int .i64 (-1)]) (by simp [results, Tryz.results115, go_sem, r0, r1, r2, r3]) rfl (tagPost_none HN.out rfl ?_)
                iterate 4 refine Below.setCell ?_ (by simp; try omega) _
                exact HBn.out
              · have b23 := (byte_t (n := 47) rfl h47).1
                have b23' := (byte_f (n := 62) rfl h62').1
                go_wp2_with fail
                (refine bodyPost_ret (v := .tuple #[tkZ, .bool false, .int .i64 (-1)]) (by simp [results, Tryz.results115, go_sem, r0, r1, r2, r3]) rfl (tagPost_none HN.out rfl ?_); (iterate 4 refine Below.setCell ?_ (by simp; try omega) _); exact HBn.out)

theorem cTag (s : ByteArray) (p : Nat) (w : World) (hs : s.size ≤ 4000) (hp : p < s.size) (h0 : s[p] = 60) :
    Calls Tryz.prog 115 #[.string s, .int .i64 p] w (TagPost s p w) := by
  by_cases h1 : (s.data.toList.drop (p + 1)).head? = some 47
  · obtain ⟨h, e⟩ := (head_iff s (p + 1) 47).1 h1
    exact cTagClose s p w hs h h0 e
  · exact cTagOpen s p w hs hp h0 h1

end Go.Proofs.YteninofjeidljaaGreat

namespace Go.Proofs.YteninofjeidljaaGreat

open Go.RowKit

set_option linter.unusedVariables false

set_option linter.unusedSimpArgs false

theorem infoTk : (Tryz.prog.info? 49).map (fun i => (i.zero, i.size, i.bytes)) = some (some (.agg #[.int .i64 0, .string ⟨#[]⟩, .slice none 0 0, .string ⟨#[]⟩]), 4, 64) := by kernel_rfl

/-- A token, and where its attrs lie. -/
structure TkE where
  t : Tk
  a : Option Addr
  cap : Nat

def tkC1 (e : TkE) : List Value := [.int .i64 e.t.kind, .string e.t.name, .slice e.a e.t.attrs.length e.cap, .string e.t.text]

def tkC (es : List TkE) : List Value := es.flatMap tkC1

theorem tkC_snoc (es : List TkE) (e : TkE) : tkC (es ++ [e]) = tkC es ++ tkC1 e := by
  unfold tkC
  rw [List.flatMap_append]
  simp

theorem tkC_get (es : List TkE) (j : Nat) (h : j < es.length) : (tkC es)[j * 4]? = some (.int .i64 es[j].t.kind) ∧ (tkC es)[j * 4 + 1]? = some (.string es[j].t.name)
    ∧ (tkC es)[j * 4 + 2]? = some (.slice es[j].a es[j].t.attrs.length es[j].cap) ∧ (tkC es)[j * 4 + 3]? = some (.string es[j].t.text) := by
  induction es generalizing j with
  | nil => simp at h
  | cons x es ih =>
    have e : tkC (x :: es) = .int .i64 x.t.kind :: .string x.t.name :: .slice x.a x.t.attrs.length x.cap :: .string x.t.text :: tkC es := rfl
    rw [e]
    match j with
    | 0 => exact ⟨rfl, rfl, rfl, rfl⟩
    | j + 1 =>
      have := ih j (by simpa using h)
      rw [show (j + 1) * 4 = j * 4 + 1 + 1 + 1 + 1 by omega]
      exact this

/-- The row of tokens that was read so far. -/
structure OutSt (wr : World) (B : Nat) (v : Value) (es : List TkE) : Prop where
  own : wr.ownsRow B 49 4 v es.length (tkC es)
  ats : ∀ e ∈ es, AtRow wr e.a e.t.attrs ∧ ∀ g o, 0 < e.t.attrs.length → e.a = some ⟨g, o, none⟩ → g < wr.heap.size ∧ ¬ v.ownBlock = some g
  sz : ∀ e ∈ es, TkSz 1048576 e.t

theorem atRow_block {w w' : World} {a : Option Addr} {l : List At} (h : AtRow w a l) (hb : ∀ g o, 0 < l.length → a = some ⟨g, o, none⟩ → w'.heap[g]? = w.heap[g]?) : AtRow w' a l := by
  intro j hj
  obtain ⟨b, o, e, hlt, c1, c2⟩ := h j hj
  have hk := hb b o (by omega) e
  exact ⟨b, o, e, lt_of_heap (hk.trans (Array.getElem?_eq_getElem hlt)), by rw [World.cell?_of_block (w := w) hk]; exact c1, by rw [World.cell?_of_block (w := w) hk]; exact c2⟩

theorem OutSt.below {wr w' : World} {B : Nat} {v : Value} {es : List TkE} (h : OutSt wr B v es) (hb : Below wr.heap.size wr w') : OutSt w' B v es :=
  ⟨ownsRow_below h.own hb, fun e he => ⟨(h.ats e he).1.below hb, fun g o hl hg => ⟨Nat.lt_of_lt_of_le ((h.ats e he).2 g o hl hg).1 hb.size, ((h.ats e he).2 g o hl hg).2⟩⟩, h.sz⟩

theorem OutSt.snoc {wr w' : World} {B : Nat} {v v' : Value} {es : List TkE} (h : OutSt wr B v es) {e : TkE} (ha : AtRow wr e.a e.t.attrs) (hg : ∀ g o, 0 < e.t.attrs.length → e.a = some ⟨g, o, none⟩ → g < wr.heap.size ∧ ¬ v.ownBlock = some g) (hz : TkSz 1048576 e.t)
    (ho : w'.ownsRow B 49 4 v' (es.length + 1) (tkC es ++ tkC1 e)) (hgr : wr.grownBy w' v.ownBlock) (hw : v'.ownBlock = v.ownBlock ∨ v'.ownBlock = some wr.heap.size) : OutSt w' B v' (es ++ [e]) := by
  have key : ∀ e' : TkE, AtRow wr e'.a e'.t.attrs → (∀ g o, 0 < e'.t.attrs.length → e'.a = some ⟨g, o, none⟩ → g < wr.heap.size ∧ ¬ v.ownBlock = some g) → AtRow w' e'.a e'.t.attrs ∧ ∀ g o, 0 < e'.t.attrs.length → e'.a = some ⟨g, o, none⟩ → g < w'.heap.size ∧ ¬ v'.ownBlock = some g := by
    intro e' h1 h2
    refine ⟨atRow_block h1 (fun g o hl hg => hgr.block g (h2 g o hl hg).1 (fun x => (h2 g o hl hg).2 x.symm)), fun g o hl hg => ⟨Nat.lt_of_lt_of_le (h2 g o hl hg).1 hgr.size, fun x => ?_⟩⟩
    rcases hw with hw | hw
    · exact (h2 g o hl hg).2 (hw.symm.trans x)
    · rw [hw] at x
      simp only [Option.some.injEq] at x
      have := (h2 g o hl hg).1
      omega
  refine ⟨by rw [List.length_append, tkC_snoc]; exact ho, fun x hx => ?_, fun x hx => ?_⟩
  · rcases List.mem_append.1 hx with h' | h'
    · exact key x (h.ats x h').1 (h.ats x h').2
    · rw [List.mem_singleton] at h'
      subst h'
      exact key x ha hg
  · rcases List.mem_append.1 hx with h' | h'
    · exact h.sz x h'
    · rw [List.mem_singleton] at h'
      subst h'
      exact hz

theorem OutSt.row {wr : World} {B : Nat} {v : Value} {es : List TkE} (h : OutSt wr B v es) : ∃ a cap, v = .slice a es.length cap ∧ TkRow wr a (es.map (·.t)) := by
  rcases h.own.2 with ⟨rfl, h0⟩ | ⟨g, cap, cur, rfl, hg, hh, hn, hc, hs, ht⟩
  · exact ⟨none, 0, by rw [h0], fun j hj => by rw [List.length_map] at hj; omega⟩
  · refine ⟨some ⟨g, 0, none⟩, cap, rfl, fun j hj => ?_⟩
    rw [List.length_map] at hj
    obtain ⟨c0, c1, c2, c3⟩ := tkC_get es j hj
    have hx : ∀ k u, (tkC es)[k]? = some u → wr.cell? ⟨g, 0 + k, none⟩ = some u := by
      intro k u hk
      rw [Lib.cell_of_heap hh, Nat.zero_add, ← Array.getElem?_toList]
      rw [← ht, List.getElem?_take] at hk
      split at hk
      · exact hk
      · cases hk
    rw [List.getElem_map]
    exact ⟨g, 0, es[j].a, es[j].cap, rfl, lt_of_heap hh, hx _ _ c0, hx _ _ c1, hx _ _ c2, hx _ _ c3, (h.ats _ (List.getElem_mem hj)).1⟩

theorem OutSt.tksSz {wr : World} {B : Nat} {v : Value} {es : List TkE} (h : OutSt wr B v es) : TksSz 1048576 (es.map (·.t)) := by
  intro t ht
  obtain ⟨e, he, rfl⟩ := List.mem_map.1 ht
  exact h.sz e he

theorem OutSt.start (w : World) (B g : Nat) (hB : B ≤ g) (hh : w.heap[g]? = some (.cells #[] 49 (0, 0))) : OutSt w B (.slice (some ⟨g, 0, none⟩) 0 0) [] :=
  ⟨⟨rfl, .inr ⟨g, 0, #[], rfl, hB, hh, Nat.le_refl _, Nat.zero_le _, rfl, rfl⟩⟩, fun e he => absurd he List.not_mem_nil, fun e he => absurd he List.not_mem_nil⟩

theorem four_one (e : TkE) : ∀ u ∈ tkC1 e, u.oneCell' = true := by
  intro u hu
  simp [tkC1] at hu
  rcases hu with rfl | rfl | rfl | rfl <;> rfl

/-- append of a token onto the row. -/
theorem wpL_app8 (w : World) {ops : Array Oper} {rest : List Oper} {o : Oper} {a : Act} {Q : Exit → Act → World → Prop} (hgd : o.guard = none) (s x : Operand)
    (ho : o.op = .call { callee := .builtin .append, args := #[s, x], argTypes := #[27, 27] }) (base : Nat) (v : Value) (es : List TkE) (hs : a.eval s = v) (hown : OutSt w base v es)
    (e : TkE) (B : Nat) (hx : a.eval x = .slice (some ⟨B, 0, none⟩) 1 1) (hB : w.heap[B]? = some (.cells #[.int .i64 e.t.kind, .string e.t.name, .slice e.a e.t.attrs.length e.cap, .string e.t.text] 49 (0, 0)))
    (ha : AtRow w e.a e.t.attrs) (hg : ∀ g o, 0 < e.t.attrs.length → e.a = some ⟨g, o, none⟩ → g < w.heap.size ∧ ¬ v.ownBlock = some g) (hz : TkSz 1048576 e.t) (hn : es.length ≤ 1048576) (hb : base ≤ w.heap.size)
    (h : ∀ a' c' w', OutSt w' base (.slice a' (es.length + 1) c') (es ++ [e]) → Below base w w' → w.grownBy w' v.ownBlock → wpList Tryz.prog ops Q rest (a.put o.dst (.slice a' (es.length + 1) c')) w') : wpList Tryz.prog ops Q (o :: rest) a w := by
  obtain ⟨i0, hi, hz0, hz1, hz2⟩ := info_parts infoTk
  refine wpList_append_own_at w hgd s x 27 ho base 49 i0 _ 4 64 Tryz.underlying27 hi hz0 hz1 hz2 rfl (by decide) v es.length (tkC es) hs hown.own ⟨B, 0, none⟩ 1 1 (tkC1 e) hx rfl ?_ (four_one e) (by unfold maxLen; omega) (by omega) hb ?_
  · intro j u hj
    rw [add_plain7, Nat.zero_add, Lib.cell_of_heap hB]
    match j, hj with
    | 0, hj => exact hj
    | 1, hj => exact hj
    | 2, hj => exact hj
    | 3, hj => exact hj
  · intro v' w' ho' hg' _ hw'
    obtain ⟨a', c', hv'⟩ := own_slice ho'
    subst hv'
    exact h a' c' w' (hown.snoc ha hg hz ho' hg' hw') ((Below.refl base w).grown hg' hb (fun k e => (hown.own.lt k e).1)) hg'

end Go.Proofs.YteninofjeidljaaGreat
