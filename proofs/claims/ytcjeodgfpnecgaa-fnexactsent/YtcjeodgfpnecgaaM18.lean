/- Contracts of spec.Escaped and impl.Escaped: both write what escapedL says. Contracts of what a token is shown as, of the specification. -/
import Derived.Test.YtcjeodgfpnecgaaRows
import Derived.Test.YtcjeodgfpnecgaaM9
import Derived.Test.YtcjeodgfpnecgaaM1
import Derived.Test.YtcjeodgfpnecgaaM10
import Derived.Test.YtcjeodgfpnecgaaM16
import Derived.Test.YtcjeodgfpnecgaaM17
import Derived.Test.YtcjeodgfpnecgaaM11
import Derived.WalkKit
namespace Go.Proofs.Ytcjeodgfpnecgaa
open Go.RowKit

/-- One round of the builder's loop. -/
theorem esc_round {q : Bool} {s : ByteArray} {k : Nat} {w1 : World} {B : Nat} (hlt : k < s.size)
    (h : Lib.IsBuilder 46 5 B B (Lib.byteCells (escL q (s.data.toList.take k)) ++ Lib.strCells ⟨(escB q s[k]).toArray⟩) w1) :
    Lib.IsBuilder 46 5 B B (Lib.byteCells (escL q (s.data.toList.take (k + 1)))) w1 := by
  rw [take_snocE s k hlt, escL_snoc, byteCells_app, ← strCells_eq (escB q s[k])]
  exact h

theorem len_esc (q : Bool) (s : ByteArray) (k : Nat) (hk : k ≤ s.size) : (Lib.byteCells (escL q (s.data.toList.take k))).length ≤ 6 * s.size := by
  rw [Lib.byteCells_length]
  have h := escL_le q (s.data.toList.take k)
  have h2 : (s.data.toList.take k).length ≤ k := List.length_take_le _ _
  omega

theorem size_esc (q : Bool) (c : UInt8) : (⟨(escB q c).toArray⟩ : ByteArray).size ≤ 6 := by
  have := escB_le q c
  simpa [ByteArray.size] using this

set_option maxRecDepth 100000 in
set_option maxHeartbeats 1000000 in
theorem c_impl_Escaped_no (s : ByteArray) (q : Bool) (w : World) (h0 : s.size ≤ 1048576) (hp : plainL s.data.toList = false) :
    Calls Try.prog 49 #[.string s, .bool q] w fun e w' => e = .returned (.string ⟨(escapedL q s.data.toList).toArray⟩) ∧ Below w.heap.size w w' := by
  have e : escapedL q s.data.toList = [] := by simp [escapedL, hp]
  rw [e]
  go_enter Try.func49, Try.ntmps49
  go_wp2_with (go_at_call 73; refine (c_impl_PlainOk _ _ (by unfold maxLen; omega)).mono ?_; rintro e w' ⟨rfl, rfl⟩)
  go_ret
  exact ⟨rfl, Below.refl _ _⟩

set_option maxRecDepth 100000 in
set_option maxHeartbeats 1000000 in
theorem c_impl_Escaped_text (s : ByteArray) (w : World) (h0 : s.size ≤ 1048576) (hp : plainL s.data.toList = true) :
    Calls Try.prog 49 #[.string s, .bool false] w fun e w' => e = .returned (.string ⟨(escapedL false s.data.toList).toArray⟩) ∧ Below w.heap.size w w' := by
  have e : escapedL false s.data.toList = escL false s.data.toList := by simp [escapedL, hp]
  rw [e]; clear e
  go_enter Try.func49, Try.ntmps49
  go_wp2_with (go_at_call 73; refine (c_impl_PlainOk _ _ (by unfold maxLen; omega)).mono ?_; rintro e w' ⟨rfl, rfl⟩)
  go_loopw [14] (fun i wr => ∃ k : Nat, k ≤ s.size ∧ i = .int .i64 k ∧ Lib.IsBuilder 46 5 w'.heap.size w'.heap.size (Lib.byteCells (escL false (s.data.toList.take k))) wr ∧ Below w'.heap.size w' wr) (fun i _ => s.size - (intOf i).toNat)
  case atStart => exact ⟨0, Nat.zero_le _, rfl, Lib.fresh_isBuilder 46 5 _, (Below.refl _ _).alloc (Nat.le_refl _) _⟩
  case round =>
    obtain ⟨k, hk, rfl, hI, hB⟩ := hrel
    by_cases hlt : k < s.size
    · have hsz := hB.size
      have hl := len_esc false s k hk
      have h6 := size_esc false s[k]
      have HI : Hid (Lib.IsBuilder 46 5 w'.heap.size w'.heap.size (Lib.byteCells (escL false (s.data.toList.take k))) wr) := hI
      clear hI
      go_wp2_with (first
        | (go_at_call 74; refine (c__impl_sign__inText s[k] _).mono ?_; rintro e w1 ⟨rfl, hb1⟩)
        | (go_at_call 21; refine (writeString _ _ _ _ _ (isBuilder_below HI.out hb1) (by omega) (by have := hb1.size; omega)).mono ?_; rintro e w2 ⟨rfl, hI2, hb2, _⟩))
      go_roundw
      case rel => exact ⟨k + 1, by omega, by go_num, esc_round hlt hI2, hB.trans ((hb1.mono hsz).trans hb2)⟩
      case measure => simp [intOf]; omega
    · have hk' : s.data.toList.take k = s.data.toList := plainL_full s k hlt
      rw [hk'] at hI
      have hsz := hB.size
      go_wp2_with (go_at_call 23; refine (Try.Builder_String_any _ _ _ _ hI hsz).mono ?_; rintro e w2 ⟨rfl, hb2⟩)
      go_ret
      exact ⟨rfl, hB.trans hb2⟩
set_option maxRecDepth 100000 in
set_option maxHeartbeats 1000000 in
theorem c_impl_Escaped_quot (s : ByteArray) (w : World) (h0 : s.size ≤ 1048576) (hp : plainL s.data.toList = true) :
    Calls Try.prog 49 #[.string s, .bool true] w fun e w' => e = .returned (.string ⟨(escapedL true s.data.toList).toArray⟩) ∧ Below w.heap.size w w' := by
  have e : escapedL true s.data.toList = escL true s.data.toList := by simp [escapedL, hp]
  rw [e]; clear e
  go_enter Try.func49, Try.ntmps49
  go_wp2_with (go_at_call 73; refine (c_impl_PlainOk _ _ (by unfold maxLen; omega)).mono ?_; rintro e w' ⟨rfl, rfl⟩)
  go_loopw [14] (fun i wr => ∃ k : Nat, k ≤ s.size ∧ i = .int .i64 k ∧ Lib.IsBuilder 46 5 w'.heap.size w'.heap.size (Lib.byteCells (escL true (s.data.toList.take k))) wr ∧ Below w'.heap.size w' wr) (fun i _ => s.size - (intOf i).toNat)
  case atStart => exact ⟨0, Nat.zero_le _, rfl, Lib.fresh_isBuilder 46 5 _, (Below.refl _ _).alloc (Nat.le_refl _) _⟩
  case round =>
    obtain ⟨k, hk, rfl, hI, hB⟩ := hrel
    by_cases hlt : k < s.size
    · have hsz := hB.size
      have hl := len_esc true s k hk
      have h6 := size_esc true s[k]
      have HI : Hid (Lib.IsBuilder 46 5 w'.heap.size w'.heap.size (Lib.byteCells (escL true (s.data.toList.take k))) wr) := hI
      clear hI
      go_wp2_with (first
        | (go_at_call 75; refine (c__impl_sign__inQuotes s[k] _).mono ?_; rintro e w1 ⟨rfl, hb1⟩)
        | (go_at_call 21; refine (writeString _ _ _ _ _ (isBuilder_below HI.out hb1) (by omega) (by have := hb1.size; omega)).mono ?_; rintro e w2 ⟨rfl, hI2, hb2, _⟩))
      go_roundw
      case rel => exact ⟨k + 1, by omega, by go_num, esc_round hlt hI2, hB.trans ((hb1.mono hsz).trans hb2)⟩
      case measure => simp [intOf]; omega
    · have hk' : s.data.toList.take k = s.data.toList := plainL_full s k hlt
      rw [hk'] at hI
      have hsz := hB.size
      go_wp2_with (go_at_call 23; refine (Try.Builder_String_any _ _ _ _ hI hsz).mono ?_; rintro e w2 ⟨rfl, hb2⟩)
      go_ret
      exact ⟨rfl, hB.trans hb2⟩

theorem own_step {q : Bool} {s : ByteArray} {k : Nat} {w1 : World} {B n : Nat} {v : Value} {xs : List Value} {l : List UInt8} (hlt : k < s.size) (hl : escB q s[k] = l) (hn : n = l.length) (hx : xs = Lib.byteCells l)
    (h : w1.ownsRow B 5 1 v ((escL q (s.data.toList.take k)).length + n) (Lib.byteCells (escL q (s.data.toList.take k)) ++ xs)) :
    w1.ownsRow B 5 1 v (escL q (s.data.toList.take (k + 1))).length (Lib.byteCells (escL q (s.data.toList.take (k + 1)))) := by
  rw [take_snocE s k hlt, escL_snoc, byteCells_app, List.length_append, hl, ← hn, ← hx]
  exact h

theorem len_esc' (q : Bool) (s : ByteArray) (k : Nat) (hk : k ≤ s.size) : (escL q (s.data.toList.take k)).length ≤ 6 * s.size := by
  have h := escL_le q (s.data.toList.take k)
  have h2 : (s.data.toList.take k).length ≤ k := List.length_take_le _ _
  omega

theorem info5E : (Try.prog.info? 5).map (fun i => (i.zero, i.size, i.bytes)) = some (some (.int .u8 0), 1, 1) := by kernel_rfl

set_option maxRecDepth 100000 in
set_option maxHeartbeats 1000000 in
theorem c_spec_Escaped_no (s : ByteArray) (q : Bool) (w : World) (h0 : s.size ≤ 1048576) (hp : plainL s.data.toList = false) :
    Calls Try.prog 57 #[.string s, .bool q] w fun e w' => e = .returned (.string ⟨(escapedL q s.data.toList).toArray⟩) ∧ Below w.heap.size w w' := by
  have e : escapedL q s.data.toList = [] := by simp [escapedL, hp]
  rw [e]
  go_enter Try.func57, Try.ntmps57
  go_wp2_with (go_at_call 54; refine (c_spec_PlainOk _ _ (by unfold maxLen; omega)).mono ?_; rintro e w' ⟨rfl, rfl⟩)
  go_ret
  exact ⟨rfl, Below.refl _ _⟩

theorem one_cellE (w : World) (v : Value) : ∀ j u, [v][j]? = some u → (w.alloc (.cells #[v] 5)).cell? ((⟨w.heap.size, 0, none⟩ : Addr).add j) = some u := by
  intro j u hj
  match j, hj with
  | 0, hj => simp at hj; subst hj; simp [Addr.add]

theorem one_one (n : Int) : ∀ u ∈ [Value.int .u8 n], u.oneCell' = true := by
  intro u hu; simp at hu; subst hu; rfl

set_option maxRecDepth 100000 in
set_option maxHeartbeats 4000000 in
theorem c_spec_Escaped_text (s : ByteArray) (w : World) (h0 : s.size ≤ 1048576) (hp : plainL s.data.toList = true) :
    Calls Try.prog 57 #[.string s, .bool false] w fun e w' => e = .returned (.string ⟨(escapedL false s.data.toList).toArray⟩) ∧ Below w.heap.size w w' := by
  have e : escapedL false s.data.toList = escL false s.data.toList := by simp [escapedL, hp]
  rw [e]; clear e
  obtain ⟨i0, hi, hz0, hz1, hz2⟩ := info_parts info5E
  go_enter Try.func57, Try.ntmps57
  go_wp2_with (go_at_call 54; refine (c_spec_PlainOk _ _ (by unfold maxLen; omega)).mono ?_; rintro e w' ⟨rfl, rfl⟩)
  clear hp
  go_loopw [5, 6] (fun v i wr => ∃ k : Nat, k ≤ s.size ∧ i = .int .i64 k ∧ wr.ownsRow w'.heap.size 5 1 v (escL false (s.data.toList.take k)).length (Lib.byteCells (escL false (s.data.toList.take k))) ∧ Below w'.heap.size w' wr) (fun _ i _ => s.size - (intOf i).toNat)
  case atStart => exact ⟨0, Nat.zero_le _, rfl, World.ownsRow_made _ _ _ (Nat.le_refl _) (by decide) rfl, (Below.refl _ _).alloc (Nat.le_refl _) _⟩
  case round =>
    obtain ⟨k, hk, rfl, hown, hB⟩ := hrel
    have hsz := hB.size
    by_cases hlt : k < s.size
    · have hl := len_esc' false s k hk
      have cases : (s[k].toNat : Int) = 38 ∨ (s[k].toNat : Int) = 60 ∨ (s[k].toNat : Int) = 62 ∨ (s[k].toNat : Int) = 34 ∨ (¬ (s[k].toNat : Int) = 38 ∧ ¬ (s[k].toNat : Int) = 60 ∧ ¬ (s[k].toNat : Int) = 62 ∧ ¬ (s[k].toNat : Int) = 34) := by omega
      rcases cases with h | h | h | h | h
      · have g0 : (s[k].toNat : Int) ≤ 38 := by omega
        have g1 : (38 : Int) ≤ s[k].toNat := by omega
        have he : escB false s[k] = [38, 97, 109, 112, 59] := by unfold escB; simp [show s[k].toNat = 38 by omega]
        have HE : Hid (escB false s[k] = [38, 97, 109, 112, 59]) := he
        clear he h
        go_wp2_with (at_builtin; refine Lib.wpList_append_own_string _ rfl _ _ 41 9 rfl w'.heap.size 5 i0 Try.underlying41 Try.underlying9 hi hz0 hz1 hz2 _ _ _ rfl hown ⟨#[38, 97, 109, 112, 59]⟩ rfl (show _ + 5 ≤ _ by unfold maxLen; omega) (show _ + 5 ≤ _ by omega) hsz ?_)
        intro v' w1 hown' hgrow _
        have R := own_step (q := false) hlt HE.out rfl rfl hown'
        have hB1 := hB.grown hgrow hsz (fun k hk => (hown.lt k hk).1)
        clear hown' hgrow hown
        go_wp2
        go_roundw
        case rel => exact ⟨k + 1, by omega, by go_num, R, hB1⟩
        case measure => simp [intOf]; omega
      · have g0 : (s[k].toNat : Int) ≤ 60 := by omega
        have g1 : (60 : Int) ≤ s[k].toNat := by omega
        have he : escB false s[k] = [38, 108, 116, 59] := by unfold escB; simp [show s[k].toNat = 60 by omega]
        have HE : Hid (escB false s[k] = [38, 108, 116, 59]) := he
        clear he h
        go_wp2_with (at_builtin; refine Lib.wpList_append_own_string _ rfl _ _ 41 9 rfl w'.heap.size 5 i0 Try.underlying41 Try.underlying9 hi hz0 hz1 hz2 _ _ _ rfl hown ⟨#[38, 108, 116, 59]⟩ rfl (show _ + 4 ≤ _ by unfold maxLen; omega) (show _ + 4 ≤ _ by omega) hsz ?_)
        intro v' w1 hown' hgrow _
        have R := own_step (q := false) hlt HE.out rfl rfl hown'
        have hB1 := hB.grown hgrow hsz (fun k hk => (hown.lt k hk).1)
        clear hown' hgrow hown
        go_wp2
        go_roundw
        case rel => exact ⟨k + 1, by omega, by go_num, R, hB1⟩
        case measure => simp [intOf]; omega
      · have g0 : (s[k].toNat : Int) ≤ 62 := by omega
        have g1 : (62 : Int) ≤ s[k].toNat := by omega
        have he : escB false s[k] = [38, 103, 116, 59] := by unfold escB; simp [show s[k].toNat = 62 by omega]
        have HE : Hid (escB false s[k] = [38, 103, 116, 59]) := he
        clear he h
        go_wp2_with (at_builtin; refine Lib.wpList_append_own_string _ rfl _ _ 41 9 rfl w'.heap.size 5 i0 Try.underlying41 Try.underlying9 hi hz0 hz1 hz2 _ _ _ rfl hown ⟨#[38, 103, 116, 59]⟩ rfl (show _ + 4 ≤ _ by unfold maxLen; omega) (show _ + 4 ≤ _ by omega) hsz ?_)
        intro v' w1 hown' hgrow _
        have R := own_step (q := false) hlt HE.out rfl rfl hown'
        have hB1 := hB.grown hgrow hsz (fun k hk => (hown.lt k hk).1)
        clear hown' hgrow hown
        go_wp2
        go_roundw
        case rel => exact ⟨k + 1, by omega, by go_num, R, hB1⟩
        case measure => simp [intOf]; omega
      · have g0 : (s[k].toNat : Int) ≤ 34 := by omega
        have g1 : (34 : Int) ≤ s[k].toNat := by omega
        have he : escB false s[k] = [s[k]] := by unfold escB; simp [show s[k].toNat = 34 by omega]
        have HN : Hid ((s[k].toNat : Int) = 34) := h
        have HE : Hid (escB false s[k] = [s[k]]) := he
        clear he h
        go_wp2_with (at_builtin; refine wpList_append_own _ rfl _ _ 41 rfl w'.heap.size 5 i0 (.int .u8 0) 1 1 Try.underlying41 hi hz0 hz1 hz2 rfl (by decide) _ _ _ rfl (hown.alloc _) ⟨wr.heap.size, 0, none⟩ 1 1 [.int .u8 34] rfl rfl (one_cellE _ _) (one_one _) (by unfold maxLen; omega) (by omega) (by simp; omega) ?_)
        intro v' w1 hown' hgrow _
        have R := own_step (q := false) hlt HE.out rfl (by simp [Lib.byteCells, HN.out]) hown'
        have hB1 := (hB.alloc hsz _).grown hgrow (by simp; omega) (fun k hk => (hown.lt k hk).1)
        clear hown' hgrow hown
        go_wp2
        go_roundw
        case rel => exact ⟨k + 1, by omega, by go_num, R, hB1⟩
        case measure => simp [intOf]; omega
      · obtain ⟨x0, x1, x2, x3⟩ := h
        have he : escB false s[k] = [s[k]] := by unfold escB; simp [show ¬ s[k].toNat = 38 by omega, show ¬ s[k].toNat = 60 by omega, show ¬ s[k].toNat = 62 by omega, show ¬ s[k].toNat = 34 by omega]
        have HE : Hid (escB false s[k] = [s[k]]) := he
        clear he
        go_wp2_with (at_builtin; refine wpList_append_own _ rfl _ _ 41 rfl w'.heap.size 5 i0 (.int .u8 0) 1 1 Try.underlying41 hi hz0 hz1 hz2 rfl (by decide) _ _ _ rfl (hown.alloc _) ⟨wr.heap.size, 0, none⟩ 1 1 [.int .u8 s[k].toNat] rfl rfl (one_cellE _ _) (one_one _) (by unfold maxLen; omega) (by omega) (by simp; omega) ?_)
        intro v' w1 hown' hgrow _
        have R := own_step (q := false) hlt HE.out rfl rfl hown'
        have hB1 := (hB.alloc hsz _).grown hgrow (by simp; omega) (fun k hk => (hown.lt k hk).1)
        clear hown' hgrow hown
        go_wp2
        go_roundw
        case rel => exact ⟨k + 1, by omega, by go_num, R, hB1⟩
        case measure => simp [intOf]; omega
    · have hk' : s.data.toList.take k = s.data.toList := plainL_full s k hlt
      rw [hk'] at hown
      have hr := run_str_own (P := Try.prog) (src := 41) (dst := 9) Try.underlying41 Try.underlying5 Try.underlying9 hown
      clear hown hk'
      go_wp2
      go_ret
      exact ⟨rfl, hB⟩

set_option maxRecDepth 100000 in
set_option maxHeartbeats 4000000 in
theorem c_spec_Escaped_quot (s : ByteArray) (w : World) (h0 : s.size ≤ 1048576) (hp : plainL s.data.toList = true) :
    Calls Try.prog 57 #[.string s, .bool true] w fun e w' => e = .returned (.string ⟨(escapedL true s.data.toList).toArray⟩) ∧ Below w.heap.size w w' := by
  have e : escapedL true s.data.toList = escL true s.data.toList := by simp [escapedL, hp]
  rw [e]; clear e
  obtain ⟨i0, hi, hz0, hz1, hz2⟩ := info_parts info5E
  go_enter Try.func57, Try.ntmps57
  go_wp2_with (go_at_call 54; refine (c_spec_PlainOk _ _ (by unfold maxLen; omega)).mono ?_; rintro e w' ⟨rfl, rfl⟩)
  clear hp
  go_loopw [5, 6] (fun v i wr => ∃ k : Nat, k ≤ s.size ∧ i = .int .i64 k ∧ wr.ownsRow w'.heap.size 5 1 v (escL true (s.data.toList.take k)).length (Lib.byteCells (escL true (s.data.toList.take k))) ∧ Below w'.heap.size w' wr) (fun _ i _ => s.size - (intOf i).toNat)
  case atStart => exact ⟨0, Nat.zero_le _, rfl, World.ownsRow_made _ _ _ (Nat.le_refl _) (by decide) rfl, (Below.refl _ _).alloc (Nat.le_refl _) _⟩
  case round =>
    obtain ⟨k, hk, rfl, hown, hB⟩ := hrel
    have hsz := hB.size
    by_cases hlt : k < s.size
    · have hl := len_esc' true s k hk
      have cases : (s[k].toNat : Int) = 38 ∨ (s[k].toNat : Int) = 60 ∨ (s[k].toNat : Int) = 62 ∨ (s[k].toNat : Int) = 34 ∨ (¬ (s[k].toNat : Int) = 38 ∧ ¬ (s[k].toNat : Int) = 60 ∧ ¬ (s[k].toNat : Int) = 62 ∧ ¬ (s[k].toNat : Int) = 34) := by omega
      rcases cases with h | h | h | h | h
      · have g0 : (s[k].toNat : Int) ≤ 38 := by omega
        have g1 : (38 : Int) ≤ s[k].toNat := by omega
        have he : escB true s[k] = [38, 97, 109, 112, 59] := by unfold escB; simp [show s[k].toNat = 38 by omega]
        have HE : Hid (escB true s[k] = [38, 97, 109, 112, 59]) := he
        clear he h
        go_wp2_with (at_builtin; refine Lib.wpList_append_own_string _ rfl _ _ 41 9 rfl w'.heap.size 5 i0 Try.underlying41 Try.underlying9 hi hz0 hz1 hz2 _ _ _ rfl hown ⟨#[38, 97, 109, 112, 59]⟩ rfl (show _ + 5 ≤ _ by unfold maxLen; omega) (show _ + 5 ≤ _ by omega) hsz ?_)
        intro v' w1 hown' hgrow _
        have R := own_step (q := true) hlt HE.out rfl rfl hown'
        have hB1 := hB.grown hgrow hsz (fun k hk => (hown.lt k hk).1)
        clear hown' hgrow hown
        go_wp2
        go_roundw
        case rel => exact ⟨k + 1, by omega, by go_num, R, hB1⟩
        case measure => simp [intOf]; omega
      · have g0 : (s[k].toNat : Int) ≤ 60 := by omega
        have g1 : (60 : Int) ≤ s[k].toNat := by omega
        have he : escB true s[k] = [38, 108, 116, 59] := by unfold escB; simp [show s[k].toNat = 60 by omega]
        have HE : Hid (escB true s[k] = [38, 108, 116, 59]) := he
        clear he h
        go_wp2_with (at_builtin; refine Lib.wpList_append_own_string _ rfl _ _ 41 9 rfl w'.heap.size 5 i0 Try.underlying41 Try.underlying9 hi hz0 hz1 hz2 _ _ _ rfl hown ⟨#[38, 108, 116, 59]⟩ rfl (show _ + 4 ≤ _ by unfold maxLen; omega) (show _ + 4 ≤ _ by omega) hsz ?_)
        intro v' w1 hown' hgrow _
        have R := own_step (q := true) hlt HE.out rfl rfl hown'
        have hB1 := hB.grown hgrow hsz (fun k hk => (hown.lt k hk).1)
        clear hown' hgrow hown
        go_wp2
        go_roundw
        case rel => exact ⟨k + 1, by omega, by go_num, R, hB1⟩
        case measure => simp [intOf]; omega
      · have g0 : (s[k].toNat : Int) ≤ 62 := by omega
        have g1 : (62 : Int) ≤ s[k].toNat := by omega
        have he : escB true s[k] = [s[k]] := by unfold escB; simp [show s[k].toNat = 62 by omega]
        have HN : Hid ((s[k].toNat : Int) = 62) := h
        have HE : Hid (escB true s[k] = [s[k]]) := he
        clear he h
        go_wp2_with (at_builtin; refine wpList_append_own _ rfl _ _ 41 rfl w'.heap.size 5 i0 (.int .u8 0) 1 1 Try.underlying41 hi hz0 hz1 hz2 rfl (by decide) _ _ _ rfl (hown.alloc _) ⟨wr.heap.size, 0, none⟩ 1 1 [.int .u8 62] rfl rfl (one_cellE _ _) (one_one _) (by unfold maxLen; omega) (by omega) (by simp; omega) ?_)
        intro v' w1 hown' hgrow _
        have R := own_step (q := true) hlt HE.out rfl (by simp [Lib.byteCells, HN.out]) hown'
        have hB1 := (hB.alloc hsz _).grown hgrow (by simp; omega) (fun k hk => (hown.lt k hk).1)
        clear hown' hgrow hown
        go_wp2
        go_roundw
        case rel => exact ⟨k + 1, by omega, by go_num, R, hB1⟩
        case measure => simp [intOf]; omega
      · have g0 : (s[k].toNat : Int) ≤ 34 := by omega
        have g1 : (34 : Int) ≤ s[k].toNat := by omega
        have he : escB true s[k] = [38, 113, 117, 111, 116, 59] := by unfold escB; simp [show s[k].toNat = 34 by omega]
        have HE : Hid (escB true s[k] = [38, 113, 117, 111, 116, 59]) := he
        clear he h
        go_wp2_with (at_builtin; refine Lib.wpList_append_own_string _ rfl _ _ 41 9 rfl w'.heap.size 5 i0 Try.underlying41 Try.underlying9 hi hz0 hz1 hz2 _ _ _ rfl hown ⟨#[38, 113, 117, 111, 116, 59]⟩ rfl (show _ + 6 ≤ _ by unfold maxLen; omega) (show _ + 6 ≤ _ by omega) hsz ?_)
        intro v' w1 hown' hgrow _
        have R := own_step (q := true) hlt HE.out rfl rfl hown'
        have hB1 := hB.grown hgrow hsz (fun k hk => (hown.lt k hk).1)
        clear hown' hgrow hown
        go_wp2
        go_roundw
        case rel => exact ⟨k + 1, by omega, by go_num, R, hB1⟩
        case measure => simp [intOf]; omega
      · obtain ⟨x0, x1, x2, x3⟩ := h
        have he : escB true s[k] = [s[k]] := by unfold escB; simp [show ¬ s[k].toNat = 38 by omega, show ¬ s[k].toNat = 60 by omega, show ¬ s[k].toNat = 62 by omega, show ¬ s[k].toNat = 34 by omega]
        have HE : Hid (escB true s[k] = [s[k]]) := he
        clear he
        go_wp2_with (at_builtin; refine wpList_append_own _ rfl _ _ 41 rfl w'.heap.size 5 i0 (.int .u8 0) 1 1 Try.underlying41 hi hz0 hz1 hz2 rfl (by decide) _ _ _ rfl (hown.alloc _) ⟨wr.heap.size, 0, none⟩ 1 1 [.int .u8 s[k].toNat] rfl rfl (one_cellE _ _) (one_one _) (by unfold maxLen; omega) (by omega) (by simp; omega) ?_)
        intro v' w1 hown' hgrow _
        have R := own_step (q := true) hlt HE.out rfl rfl hown'
        have hB1 := (hB.alloc hsz _).grown hgrow (by simp; omega) (fun k hk => (hown.lt k hk).1)
        clear hown' hgrow hown
        go_wp2
        go_roundw
        case rel => exact ⟨k + 1, by omega, by go_num, R, hB1⟩
        case measure => simp [intOf]; omega
    · have hk' : s.data.toList.take k = s.data.toList := plainL_full s k hlt
      rw [hk'] at hown
      have hr := run_str_own (P := Try.prog) (src := 41) (dst := 9) Try.underlying41 Try.underlying5 Try.underlying9 hown
      clear hown hk'
      go_wp2
      go_ret
      exact ⟨rfl, hB⟩

theorem c_spec_Escaped (s : ByteArray) (q : Bool) (w : World) (h0 : s.size ≤ 1048576) :
    Calls Try.prog 57 #[.string s, .bool q] w fun e w' => e = .returned (.string ⟨(escapedL q s.data.toList).toArray⟩) ∧ Below w.heap.size w w' := by
  cases hp : plainL s.data.toList
  · exact c_spec_Escaped_no s q w h0 hp
  · cases q
    · exact c_spec_Escaped_text s w h0 hp
    · exact c_spec_Escaped_quot s w h0 hp

theorem c_impl_Escaped (s : ByteArray) (q : Bool) (w : World) (h0 : s.size ≤ 1048576) :
    Calls Try.prog 49 #[.string s, .bool q] w fun e w' => e = .returned (.string ⟨(escapedL q s.data.toList).toArray⟩) ∧ Below w.heap.size w w' := by
  cases hp : plainL s.data.toList
  · exact c_impl_Escaped_no s q w h0 hp
  · cases q
    · exact c_impl_Escaped_text s w h0 hp
    · exact c_impl_Escaped_quot s w h0 hp

end Go.Proofs.Ytcjeodgfpnecgaa

namespace Go.Proofs.Ytcjeodgfpnecgaa
open Go.RowKit
set_option linter.unusedVariables false
set_option linter.unusedSimpArgs false

/-- A text as it is escaped. -/
def escS (q : Bool) (s : ByteArray) : ByteArray := ⟨(escapedL q s.data.toList).toArray⟩

/-- An attr as it is shown. -/
def atS (x : At) : ByteArray := (((((⟨#[32]⟩ : ByteArray) ++ x.name) ++ ⟨#[61, 34]⟩) ++ escS true x.value) ++ ⟨#[34]⟩)

/-- Attrs as they are shown, behind what stands ahead. -/
def atsS : List At → ByteArray → ByteArray
  | [], s => s
  | x :: l, s => atsS l (s ++ atS x)

theorem atsS_snoc (l : List At) (x : At) (s : ByteArray) : atsS (l ++ [x]) s = atsS l s ++ atS x := by
  induction l generalizing s with
  | nil => rfl
  | cons y l ih => exact ih _

theorem escS_size (q : Bool) (s : ByteArray) : (escS q s).size ≤ 6 * s.size := by
  have e : (escS q s).size = (escapedL q s.data.toList).length := by unfold escS; simp [ByteArray.size]
  have e2 : s.size = s.data.toList.length := rfl
  rw [e, e2]
  unfold escapedL
  split
  · exact escL_le q _
  · simp

theorem atS_size (x : At) : (atS x).size ≤ 4 + x.name.size + 6 * x.value.size := by
  have h := escS_size true x.value
  have e1 : (⟨#[32]⟩ : ByteArray).size = 1 := rfl
  have e2 : (⟨#[61, 34]⟩ : ByteArray).size = 2 := rfl
  have e3 : (⟨#[34]⟩ : ByteArray).size = 1 := rfl
  unfold atS
  simp only [ByteArray.size_append, e1, e2, e3]
  omega

set_option maxHeartbeats 1000000 in
theorem cL7Attr (x : At) (w : World) (h1 : x.name.size ≤ 1048576) (h2 : x.value.size ≤ 1048576) :
    Calls Try.prog 58 #[.agg #[.string x.name, .string x.value]] w fun e w' => e = .returned (.string (atS x)) ∧ Below w.heap.size w w' := by
  have C := fun w => c_spec_Escaped x.value true w h2
  have hz := escS_size true x.value
  have e0 : atS x = (((((⟨#[32]⟩ : ByteArray) ++ x.name) ++ ⟨#[61, 34]⟩) ++ escS true x.value) ++ ⟨#[34]⟩) := rfl
  rw [e0]
  have e1 : (⟨(escapedL true x.value.data.toList).toArray⟩ : ByteArray) = escS true x.value := rfl
  rw [e1] at C
  obtain ⟨E, hE⟩ : ∃ E, escS true x.value = E := ⟨_, rfl⟩
  rw [hE] at C hz ⊢
  clear e0 e1 hE
  generalize x.name = n at *
  generalize x.value = v at *
  have HB0 := hid ((Below.refl w.heap.size w).alloc (Nat.le_refl _) (.cells #[.string n, .string v] 72))
  have M := hid (heap_alloc_new w (.cells #[.string n, .string v] 72))
  obtain ⟨W, hW⟩ : ∃ W, w.alloc (.cells #[.string n, .string v] 72) = W := ⟨_, rfl⟩
  rw [hW] at HB0 M
  have k1 : W.cell? ⟨w.heap.size, 0, none⟩ = some (.string n) := by rw [Lib.cell_of_heap M.out]; rfl
  have k2 : W.cell? ⟨w.heap.size, 0 + 1, none⟩ = some (.string v) := by rw [Lib.cell_of_heap M.out]; rfl
  obtain ⟨d1, d2⟩ := pair_bw (lt_of_heap M.out) k1 k2
  simp only [Nat.zero_add] at d2
  clear k1 k2
  have HNB := hid (bw_any W)
  go_enter Try.func58, Try.ntmps58
  go_wp2_with fail
  haveI := HNB.out
  refine wp_region_below (by kernel_rfl) (by kernel_rfl) (Below.refl W.heap.size W) ?_
  repeat (go_big_quiet_step ((go_at_call 57; exact calls_bw _ (C _))))
  refine wpQuiet_nil ?_
  intro _ hw'
  obtain ⟨⟨wq, hwq⟩, hw''⟩ := hw'
  subst hw''
  have HB2 := hid (bb HB0.out hwq)
  go_wp2_with fail
  go_ret
  exact ⟨rfl, HB2.out⟩

/-- A token as it is shown. -/
def showS (t : Tk) : ByteArray :=
  if t.kind = 2 then ((⟨#[60, 47]⟩ : ByteArray) ++ t.name) ++ ⟨#[62]⟩
  else if t.kind = 3 then escS false t.text
  else atsS t.attrs ((⟨#[60]⟩ : ByteArray) ++ t.name) ++ ⟨#[62]⟩

theorem atsS_size (l : List At) (s : ByteArray) (hz : AtSz 1048576 l) : (atsS l s).size ≤ s.size + l.length * 7340036 := by
  induction l generalizing s with
  | nil => simp [atsS]
  | cons x l ih =>
    have h1 := ih (s ++ atS x) (fun y hy => hz y (List.mem_cons_of_mem _ hy))
    have h2 := atS_size x
    have h3 := hz x List.mem_cons_self
    rw [ByteArray.size_append] at h1
    rw [List.length_cons]
    show (atsS l (s ++ atS x)).size ≤ _
    omega

set_option maxRecDepth 8000 in
set_option maxHeartbeats 2000000 in
theorem cL7Show (t : Tk) (a : Option Addr) (cap : Nat) (w : World) (hR : AtRow w a t.attrs) (hz : TkSz 1048576 t) (h6 : t.attrs.length ≤ 6) :
    Calls Try.prog 35 #[tkV t a cap] w fun e w' => e = .returned (.string (showS t)) ∧ Below w.heap.size w w' := by
  obtain ⟨k, name, l, text⟩ := t
  obtain ⟨h1, _, h3, h4⟩ := hz
  simp only at hR h1 h3 h4 h6
  have HB0 := hid ((Below.refl w.heap.size w).alloc (Nat.le_refl _) (.cells #[.int .i64 k, .string name, .slice a l.length cap, .string text] 50))
  have HR := hid (hR.below HB0.out)
  have M0 := hid (heap_alloc_new w (.cells #[.int .i64 k, .string name, .slice a l.length cap, .string text] 50))
  clear hR
  simp only [tkV]
  by_cases k2 : k = 2
  · subst k2
    rw [show showS ⟨2, name, l, text⟩ = ((⟨#[60, 47]⟩ : ByteArray) ++ name) ++ ⟨#[62]⟩ from rfl]
    clear h3
    generalize l.length = n at *
    go_enter Try.func35, Try.ntmps35
    go_wp2_with fail
    go_ret
    exact ⟨rfl, HB0.out⟩
  · have d2 : (k == 2) = false := by simpa using k2
    by_cases k3 : k = 3
    · subst k3
      rw [show showS ⟨3, name, l, text⟩ = escS false text from rfl]
      have C := fun w => c_spec_Escaped text false w h4
      have e1 : (⟨(escapedL false text.data.toList).toArray⟩ : ByteArray) = escS false text := rfl
      rw [e1] at C
      generalize escS false text = E at *
      clear h3 e1
      generalize l.length = n at *
      go_enter Try.func35, Try.ntmps35
      go_wp2_with fail
      refine (C _).mono ?_
      rintro e w1 ⟨rfl, hb1⟩
      have HB1 := hid (bb HB0.out hb1)
      go_wp2_with fail
      go_ret
      exact ⟨rfl, HB1.out⟩
    · have d3 : (k == 3) = false := by simpa using k3
      have e0 : showS ⟨k, name, l, text⟩ = atsS l ((⟨#[60]⟩ : ByteArray) ++ name) ++ ⟨#[62]⟩ := by unfold showS; simp [k2, k3]
      rw [e0]
      obtain ⟨V, hV⟩ : ∃ V, atsS l ((⟨#[60]⟩ : ByteArray) ++ name) ++ ⟨#[62]⟩ = V := ⟨_, rfl⟩
      have HV := hid hV
      rw [hV]
      have H3 := hid h3
      clear e0 hV h3 k2 k3
      obtain ⟨n, hn⟩ : ∃ n, l.length = n := ⟨_, rfl⟩
      have HN := hid hn
      rw [hn] at h6 HB0 HR M0 ⊢
      clear hn
      go_enter Try.func35, Try.ntmps35
      go_wp2_with fail
      go_loopw [3, 4] (fun v j wr => ∃ i : Nat, j = .int .i64 (i : Int) ∧ i ≤ n ∧ v = .string (atsS (l.take i) ((⟨#[60]⟩ : ByteArray) ++ name)) ∧ Hid (Below (w.heap.size + 1) (w.alloc (.cells #[.int .i64 k, .string name, .slice a n cap, .string text] 50)) wr)) (fun _ j _ => n - (intOf j).toNat)
      case atStart => exact ⟨0, rfl, Nat.zero_le _, rfl, Below.refl _ _⟩
      case round =>
        obtain ⟨i, rfl, hi, rfl, HB⟩ := hrel
        have HBx := hid (show Below (w.alloc (.cells #[.int .i64 k, .string name, .slice a n cap, .string text] 50)).heap.size (w.alloc (.cells #[.int .i64 k, .string name, .slice a n cap, .string text] 50)) wr by simpa using HB.out)
        obtain ⟨⟨x0, x1, x2, x3⟩, _⟩ := box4 (blk_below M0.out HBx.out)
        have HBw := hid (bb HB0.out HBx.out)
        have HZ := hid (atsS_size (l.take i) ((⟨#[60]⟩ : ByteArray) ++ name) (fun x hx => H3.out x (List.mem_of_mem_take hx)))
        have hz1 := HZ.out
        rw [ByteArray.size_append, show (⟨#[60]⟩ : ByteArray).size = 1 from rfl, List.length_take] at hz1
        have hz2 : (atsS (l.take i) ((⟨#[60]⟩ : ByteArray) ++ name)).size ≤ 60000000 := by omega
        clear hz1 HZ
        by_cases hlt : i < n
        · have his : i < l.length := by rw [HN.out]; exact hlt
          have hin : (i : Int) < (n : Int) := by omega
          obtain ⟨b, o, rfl, hb, c1, c2⟩ := (HR.out.below HBx.out) i his
          obtain ⟨z1, z2⟩ := H3.out _ (List.getElem_mem his)
          have C := fun w => cL7Attr l[i] w z1 z2
          have HS := hid (show atsS (l.take (i + 1)) ((⟨#[60]⟩ : ByteArray) ++ name) = atsS (l.take i) ((⟨#[60]⟩ : ByteArray) ++ name) ++ atS l[i] by rw [take_snocN his, atsS_snoc])
          have z3 := atS_size l[i]
          generalize atS l[i] = X at *
          generalize l[i].name = x at *
          generalize l[i].value = y at *
          generalize atsS (l.take i) ((⟨#[60]⟩ : ByteArray) ++ name) = cur at *
          go_wp2_with fail
          refine (C _).mono ?_
          rintro e w2 ⟨rfl, hb2⟩
          have HB2 := hid (HB.out.trans (hb2.mono (by have := HBx.out.size; simpa using this)))
          clear hb2 C c1 c2 x0 x1 x2 x3
          go_wp2_with fail
          go_roundw
          case rel => exact ⟨i + 1, by go_num, by omega, by rw [HS.out], HB2.out⟩
          case measure => simp [intOf]; omega
        · have hie : i = n := by omega
          subst hie
          have HW := hid (show atsS (l.take i) ((⟨#[60]⟩ : ByteArray) ++ name) ++ ⟨#[62]⟩ = V by rw [List.take_of_length_le (by rw [HN.out]; exact Nat.le_refl _)]; exact HV.out)
          generalize atsS (l.take i) ((⟨#[60]⟩ : ByteArray) ++ name) = cur at *
          go_wp2_with fail
          go_ret
          exact ⟨by rw [← HW.out]; rfl, HBw.out⟩

theorem tokB_len {t : Tk} (h : tokB t = true) : t.attrs.length ≤ 6 := by
  unfold tokB at h
  split at h
  · simp only [Bool.and_eq_true] at h
    have h2 := h.2.1
    by_cases k : AttrsOk t.attrs
    · exact k.1
    · rw [attrsB_f k] at h2
      cases h2
  · split at h
    · simp only [Bool.and_eq_true, decide_eq_true_eq] at h
      omega
    · split at h
      · simp only [Bool.and_eq_true, decide_eq_true_eq] at h
        omega
      · cases h

/-- What ShowToken answers. -/
noncomputable def shownT (t : Tk) : ByteArray := if tokB t = true then showS t else ⟨#[]⟩

end Go.Proofs.Ytcjeodgfpnecgaa
