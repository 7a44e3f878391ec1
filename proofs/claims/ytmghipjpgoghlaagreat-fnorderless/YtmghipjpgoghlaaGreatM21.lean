/- Contracts of the methods by which a sign is written: reference, itself, inText, inQuotes. The library contracts that the proofs lean on, laid at this program: a field a fact of the program, each contract one application. Contracts of strings.Builder at this program's own numbers: copyCheck, the writers, String; a builder that the call has made itself. -/
import Derived.Test.YtmghipjpgoghlaaGreatRows
import Derived.Test.YtmghipjpgoghlaaGreatM8
import Derived.Test.YtmghipjpgoghlaaGreatM1
import Derived.Test.YtmghipjpgoghlaaGreatProg
import Derived.WalkKit
import Derived.Shelf.Strings.Builder1
import Derived.OwnWalk
import Derived.Lib.Builder
import Derived.Lib.OthersKept
import Derived.Lib.AppendStr
import Derived.Laws.Externs
namespace Go.Proofs.YtmghipjpgoghlaaGreat
open Go.RowKit

theorem c__impl_sign__reference_amp (b : UInt8) (w : World) (h0 : (b.toNat : Int) ≤ 38) (h1 : (38 : Int) ≤ b.toNat) :
    Calls Tryz.prog 147 #[.int .u8 b.toNat] w fun e w' => e = .returned (.string ⟨#[38, 97, 109, 112, 59]⟩) ∧ w' = w := by
  go_enter Tryz.func147, Tryz.ntmps147
  go_wp2
  go_ret
  exact ⟨rfl, rfl⟩

theorem c__impl_sign__reference_lt (b : UInt8) (w : World) (h0 : (b.toNat : Int) ≤ 60) (h1 : (60 : Int) ≤ b.toNat) :
    Calls Tryz.prog 147 #[.int .u8 b.toNat] w fun e w' => e = .returned (.string ⟨#[38, 108, 116, 59]⟩) ∧ w' = w := by
  go_enter Tryz.func147, Tryz.ntmps147
  go_wp2
  go_ret
  exact ⟨rfl, rfl⟩

theorem c__impl_sign__reference_gt (b : UInt8) (w : World) (h0 : (b.toNat : Int) ≤ 62) (h1 : (62 : Int) ≤ b.toNat) :
    Calls Tryz.prog 147 #[.int .u8 b.toNat] w fun e w' => e = .returned (.string ⟨#[38, 103, 116, 59]⟩) ∧ w' = w := by
  go_enter Tryz.func147, Tryz.ntmps147
  go_wp2
  go_ret
  exact ⟨rfl, rfl⟩

theorem c__impl_sign__reference_quot (b : UInt8) (w : World) (h0 : (b.toNat : Int) ≤ 34) (h1 : (34 : Int) ≤ b.toNat) :
    Calls Tryz.prog 147 #[.int .u8 b.toNat] w fun e w' => e = .returned (.string ⟨#[38, 113, 117, 111, 116, 59]⟩) ∧ w' = w := by
  go_enter Tryz.func147, Tryz.ntmps147
  go_wp2
  go_ret
  exact ⟨rfl, rfl⟩

theorem c__impl_sign__reference_no (b : UInt8) (w : World) (h0 : ¬ (b.toNat : Int) = 38) (h1 : ¬ (b.toNat : Int) = 60) (h2 : ¬ (b.toNat : Int) = 62) (h3 : ¬ (b.toNat : Int) = 34) :
    Calls Tryz.prog 147 #[.int .u8 b.toNat] w fun e w' => e = .returned (.string ⟨#[]⟩) ∧ w' = w := by
  go_enter Tryz.func147, Tryz.ntmps147
  go_wp2
  go_ret
  exact ⟨rfl, rfl⟩

theorem c__impl_sign__itself (b : UInt8) (w : World) :
    Calls Tryz.prog 115 #[.int .u8 b.toNat] w fun e w' => e = .returned (.string ⟨#[b]⟩) ∧ Below w.heap.size w w' := by
  have hown : (w.alloc (.cells #[.int .u8 b.toNat] 5)).ownsRow 0 5 1 (.slice (some ⟨w.heap.size, 0, none⟩) [b].length 1) [b].length (Lib.byteCells [b]) :=
    ⟨rfl, .inr ⟨w.heap.size, 1, #[.int .u8 b.toNat], rfl, Nat.zero_le _, heap_alloc_new w _, Nat.le_refl _, by decide, rfl, rfl⟩⟩
  have hrun := run_str_own (P := Tryz.prog) (src := 22) (dst := 9) Tryz.underlying22 Tryz.underlying5 Tryz.underlying9 hown
  have hr : (convert 22 9 (.slice (some ⟨w.heap.size, 0, none⟩) 1 1)).run Tryz.prog (w.alloc (.cells #[.int .u8 b.toNat] 5)) = .ok (.string ⟨#[b]⟩) (w.alloc (.cells #[.int .u8 b.toNat] 5)) := hrun
  clear hown hrun
  go_enter Tryz.func115, Tryz.ntmps115
  go_wp2
  go_ret
  exact ⟨rfl, (Below.refl _ _).alloc (Nat.le_refl _) _⟩

theorem c__impl_sign__itself_34 (w : World) : Calls Tryz.prog 115 #[.int .u8 34] w fun e w' => e = .returned (.string ⟨#[34]⟩) ∧ Below w.heap.size w w' := c__impl_sign__itself 34 w
theorem c__impl_sign__itself_62 (w : World) : Calls Tryz.prog 115 #[.int .u8 62] w fun e w' => e = .returned (.string ⟨#[62]⟩) ∧ Below w.heap.size w w' := c__impl_sign__itself 62 w

theorem ret_str {a b : List UInt8} (h : a = b) : Ending.returned (.string ⟨a.toArray⟩) = .returned (.string ⟨b.toArray⟩) := by rw [h]

theorem c__impl_sign__inText (b : UInt8) (w : World) :
    Calls Tryz.prog 118 #[.int .u8 b.toNat] w fun e w' => e = .returned (.string ⟨(escB false b).toArray⟩) ∧ Below w.heap.size w w' := by
  have cases : (b.toNat : Int) = 38 ∨ (b.toNat : Int) = 60 ∨ (b.toNat : Int) = 62 ∨ (b.toNat : Int) = 34 ∨ (¬ (b.toNat : Int) = 38 ∧ ¬ (b.toNat : Int) = 60 ∧ ¬ (b.toNat : Int) = 62 ∧ ¬ (b.toNat : Int) = 34) := by omega
  rcases cases with h | h | h | h | ⟨h0, h1, h2, h3⟩
  · have e : escB false b = [38, 97, 109, 112, 59] := by unfold escB; rw [if_pos (by omega)]
    have g0 : (b.toNat : Int) ≤ 38 := by omega
    have g1 : (38 : Int) ≤ b.toNat := by omega
    rw [e]; clear e h
    go_enter Tryz.func118, Tryz.ntmps118
    go_wp2_with (go_at_call 147; refine (c__impl_sign__reference_amp b _ g0 g1).mono ?_; rintro e w' ⟨rfl, rfl⟩)
    go_ret
    exact ⟨rfl, Below.refl _ _⟩
  · have e : escB false b = [38, 108, 116, 59] := by unfold escB; rw [if_neg (by omega), if_pos (by omega)]
    have g0 : (b.toNat : Int) ≤ 60 := by omega
    have g1 : (60 : Int) ≤ b.toNat := by omega
    rw [e]; clear e h
    go_enter Tryz.func118, Tryz.ntmps118
    go_wp2_with (go_at_call 147; refine (c__impl_sign__reference_lt b _ g0 g1).mono ?_; rintro e w' ⟨rfl, rfl⟩)
    go_ret
    exact ⟨rfl, Below.refl _ _⟩
  · have e : escB false b = [38, 103, 116, 59] := by unfold escB; rw [if_neg (by omega), if_neg (by omega), if_pos (by omega)]; rfl
    have g0 : (b.toNat : Int) ≤ 62 := by omega
    have g1 : (62 : Int) ≤ b.toNat := by omega
    rw [e]; clear e h
    go_enter Tryz.func118, Tryz.ntmps118
    go_wp2_with (go_at_call 147; refine (c__impl_sign__reference_gt b _ g0 g1).mono ?_; rintro e w' ⟨rfl, rfl⟩)
    go_ret
    exact ⟨rfl, Below.refl _ _⟩
  · have e : escB false b = [b] := by unfold escB; rw [if_neg (by omega), if_neg (by omega), if_neg (by omega), if_pos (by omega)]; rfl
    rw [e]; clear e
    obtain rfl : b = 34 := UInt8.toNat_inj.1 (show b.toNat = 34 by omega)
    clear h
    go_enter Tryz.func118, Tryz.ntmps118
    go_wp2_with (go_at_call 115; refine (c__impl_sign__itself_34 _).mono ?_; rintro e w' ⟨rfl, hb⟩)
    go_ret
    exact ⟨rfl, hb⟩
  · have e : escB false b = [b] := by unfold escB; rw [if_neg (by omega), if_neg (by omega), if_neg (by omega), if_neg (by omega)]
    rw [e]; clear e
    go_enter Tryz.func118, Tryz.ntmps118
    go_wp2_with (first | (go_at_call 147; refine (c__impl_sign__reference_no b _ h0 h1 h2 h3).mono ?_; rintro e w' ⟨rfl, rfl⟩) | (go_at_call 115; refine (c__impl_sign__itself b _).mono ?_; rintro e w' ⟨rfl, hb⟩))
    go_ret
    exact ⟨rfl, hb⟩

theorem c__impl_sign__inQuotes (b : UInt8) (w : World) :
    Calls Tryz.prog 119 #[.int .u8 b.toNat] w fun e w' => e = .returned (.string ⟨(escB true b).toArray⟩) ∧ Below w.heap.size w w' := by
  have cases : (b.toNat : Int) = 38 ∨ (b.toNat : Int) = 60 ∨ (b.toNat : Int) = 62 ∨ (b.toNat : Int) = 34 ∨ (¬ (b.toNat : Int) = 38 ∧ ¬ (b.toNat : Int) = 60 ∧ ¬ (b.toNat : Int) = 62 ∧ ¬ (b.toNat : Int) = 34) := by omega
  rcases cases with h | h | h | h | ⟨h0, h1, h2, h3⟩
  · have e : escB true b = [38, 97, 109, 112, 59] := by unfold escB; rw [if_pos (by omega)]
    have g0 : (b.toNat : Int) ≤ 38 := by omega
    have g1 : (38 : Int) ≤ b.toNat := by omega
    rw [e]; clear e h
    go_enter Tryz.func119, Tryz.ntmps119
    go_wp2_with (go_at_call 147; refine (c__impl_sign__reference_amp b _ g0 g1).mono ?_; rintro e w' ⟨rfl, rfl⟩)
    go_ret
    exact ⟨rfl, Below.refl _ _⟩
  · have e : escB true b = [38, 108, 116, 59] := by unfold escB; rw [if_neg (by omega), if_pos (by omega)]
    have g0 : (b.toNat : Int) ≤ 60 := by omega
    have g1 : (60 : Int) ≤ b.toNat := by omega
    rw [e]; clear e h
    go_enter Tryz.func119, Tryz.ntmps119
    go_wp2_with (go_at_call 147; refine (c__impl_sign__reference_lt b _ g0 g1).mono ?_; rintro e w' ⟨rfl, rfl⟩)
    go_ret
    exact ⟨rfl, Below.refl _ _⟩
  · have e : escB true b = [b] := by unfold escB; rw [if_neg (by omega), if_neg (by omega), if_pos (by omega)]; rfl
    rw [e]; clear e
    obtain rfl : b = 62 := UInt8.toNat_inj.1 (show b.toNat = 62 by omega)
    clear h
    go_enter Tryz.func119, Tryz.ntmps119
    go_wp2_with (go_at_call 115; refine (c__impl_sign__itself_62 _).mono ?_; rintro e w' ⟨rfl, hb⟩)
    go_ret
    exact ⟨rfl, hb⟩
  · have e : escB true b = [38, 113, 117, 111, 116, 59] := by unfold escB; rw [if_neg (by omega), if_neg (by omega), if_neg (by omega), if_pos (by omega)]; rfl
    have g0 : (b.toNat : Int) ≤ 34 := by omega
    have g1 : (34 : Int) ≤ b.toNat := by omega
    rw [e]; clear e h
    go_enter Tryz.func119, Tryz.ntmps119
    go_wp2_with (go_at_call 147; refine (c__impl_sign__reference_quot b _ g0 g1).mono ?_; rintro e w' ⟨rfl, rfl⟩)
    go_ret
    exact ⟨rfl, Below.refl _ _⟩
  · have e : escB true b = [b] := by unfold escB; rw [if_neg (by omega), if_neg (by omega), if_neg (by omega), if_neg (by omega)]
    rw [e]; clear e
    go_enter Tryz.func119, Tryz.ntmps119
    go_wp2_with (first | (go_at_call 147; refine (c__impl_sign__reference_no b _ h0 h1 h2 h3).mono ?_; rintro e w' ⟨rfl, rfl⟩) | (go_at_call 115; refine (c__impl_sign__itself b _).mono ?_; rintro e w' ⟨rfl, hb⟩))
    go_ret
    exact ⟨rfl, hb⟩

end Go.Proofs.YtmghipjpgoghlaaGreat

namespace Go.Proofs
open Go.Shelf
def Tryz.lays169_ren : Go.Shelf.Ren := ⟨fun | 169 => 116 | n => n, fun | 70 => 148 | 9 => 9 | 0 => 0 | 72 => 150 | 37 => 22 | 127 => 185 | 3 => 3 | 5 => 5 | n => n, fun | n => n⟩
theorem Tryz.lays169 : Go.Proofs.Lays.n169 Tryz.prog Tryz.lays169_ren := {
  mixed := by kernel_rfl
  f169 := Tryz.func116.trans (congrArg some (by kernel_rfl))
  t0 := Tryz.underlying0
  a0 := Tryz.isAgg0
  z0 := Tryz.sizeOf0
  v0 := Tryz.zeroValue0
  t3 := Tryz.underlying3
  a3 := Tryz.isAgg3
  z3 := Tryz.sizeOf3
  v3 := Tryz.zeroValue3
  t9 := Tryz.underlying9
  a9 := Tryz.isAgg9
  z9 := Tryz.sizeOf9
  v9 := Tryz.zeroValue9
  t37 := Tryz.underlying22
  a37 := Tryz.isAgg22
  z37 := Tryz.sizeOf22
  v37 := Tryz.zeroValue22
  t70 := Tryz.underlying148
  a70 := Tryz.isAgg148
  z70 := Tryz.sizeOf148
  v70 := Tryz.zeroValue148
  t72 := Tryz.underlying150
  a72 := Tryz.isAgg150
  z72 := Tryz.sizeOf150
  v72 := Tryz.zeroValue150
  t127 := Tryz.underlying185
  a127 := Tryz.isAgg185
  z127 := Tryz.sizeOf185
  v127 := Tryz.zeroValue185 }
theorem Tryz.Builder_Extra_169 : Builder.Extra Tryz.prog Tryz.lays169_ren := {
  sizeBuilder := by kernel_rfl
  liesBuilder := by kernel_rfl
  t5 := Tryz.underlying5
  a5 := Tryz.isAgg5
  z5 := Tryz.sizeOf5
  v5 := Tryz.zeroValue5
  infoByte := by kernel_rfl
  cellsByte := by kernel_rfl
  sizeByte := by kernel_rfl
  neB5 := by decide }
open Go.RowKit in
theorem Tryz.Builder_String_any (B b : Nat) (l : List UInt8) (w : World) (h : Lib.IsBuilder 150 5 B b (Lib.byteCells l) w) (hBw : B ≤ w.heap.size) :
    Calls Tryz.prog 116 #[.pointer (some ⟨b, 0, none⟩)] w fun e w' => e = .returned (.string ⟨l.toArray⟩) ∧ Below B w w' := Any.Builder_String_any Tryz.lays169 Tryz.Builder_Extra_169 B b l w h hBw
end Go.Proofs

namespace Go.Proofs.YtmghipjpgoghlaaGreat
open Go.RowKit

theorem row_kind {w : World} {B : Nat} {e : TypeId} {v : Value} {n : Nat} {xs : List Value} (h : w.ownsRow B e 1 v n xs) : ∀ g, v.ownBlock = some g → ∃ c fz, w.heap[g]? = some (.cells c e fz) := by
  intro g hg
  rcases h.2 with ⟨rfl, _⟩ | ⟨g', cap, cur, rfl, _, hgg, _⟩
  · simp [Value.ownBlock] at hg
  · simp [Value.ownBlock] at hg
    subst hg
    exact ⟨cur, _, hgg⟩

set_option maxRecDepth 100000 in
theorem cc_used (b : Nat) (w : World) (h0 : w.cell? ⟨b, 0, none⟩ = some (.pointer (some ⟨b, 0, none⟩))) :
    Calls Tryz.prog 145 #[.pointer (some ⟨b, 0, none⟩)] w fun e w' => e = .returned (.tuple #[]) ∧ w' = w := by
  obtain ⟨j, hj, _⟩ := Option.map_eq_some_iff.1 Tryz.Builder_Extra_169.sizeBuilder
  go_enter Tryz.func145, Tryz.ntmps145
  go_wp2
  rw [Lib.run_neq_ptr_same w _ Tryz.underlying148 hj]
  go_wp2
  go_end0
  exact ⟨rfl, rfl⟩

set_option maxHeartbeats 1000000 in
set_option maxRecDepth 100000 in
theorem cc_fresh (b : Nat) (w : World) (h0 : w.cell? ⟨b, 0, none⟩ = some (.pointer none)) (hsh : w.shape? b = some (150, 2)) (hfz : w.frozen? ⟨b, 0, none⟩ = false) :
    Calls Tryz.prog 145 #[.pointer (some ⟨b, 0, none⟩)] w fun e w' => e = .returned (.tuple #[]) ∧ w' = w.setCell ⟨b, 0, none⟩ (.pointer (some ⟨b, 0, none⟩)) := by
  obtain ⟨j, hj, hjs⟩ := Option.map_eq_some_iff.1 Tryz.Builder_Extra_169.sizeBuilder
  go_enter Tryz.func145, Tryz.ntmps145
  go_wp2
  rw [Lib.run_to_unsafe w ⟨b, 0, none⟩ Tryz.underlying148 Tryz.underlying194 hj (by rw [hjs]; decide) hsh (Nat.zero_lt_succ 1)]
  simp only [Result.andThen]
  rw [Oper.upon_value]
  go_wp2
  rw [run_callFunc_extern Tryz.func159 (by kernel_rfl) (by kernel_rfl) (by kernel_rfl) (e := Extern.AbiNoEscape.same) (by kernel_rfl)]
  rw [Lib.run_noEscape]
  simp only [Result.andThen]
  rw [Oper.upon_value]
  go_wp2
  rw [Lib.run_from_unsafe w ⟨b, 0, none⟩ Tryz.underlying194 Tryz.underlying148 hj hsh Tryz.Builder_Extra_169.liesBuilder]
  simp only [Result.andThen]
  rw [Oper.upon_value]
  go_wp2
  go_end0
  exact ⟨rfl, rfl⟩

theorem cc_any (B b : Nat) (bs : List Value) (w : World) (h : Lib.IsBuilder 150 5 B b bs w) :
    Calls Tryz.prog 145 #[.pointer (some ⟨b, 0, none⟩)] w fun e w' => e = .returned (.tuple #[]) ∧ (Lib.BuilderAt 150 5 B b (.pointer (some ⟨b, 0, none⟩)) bs w' ∧ Below B w w' ∧ Lib.OthersKept 5 (some b) w w') := by
  rcases h with h | h
  · refine (cc_fresh b w h.cell0 h.shape h.frozen0).mono ?_
    rintro e w' ⟨rfl, rfl⟩
    exact ⟨rfl, h.used _, (Below.refl B w).setCell (p := ⟨b, 0, none⟩) h.1 _, (Lib.OthersKept.refl _ _ w).setCell ⟨b, 0, none⟩ rfl _⟩
  · refine (cc_used b w h.cell0).mono ?_
    rintro e w' ⟨rfl, rfl⟩
    exact ⟨rfl, h, Below.refl B _, Lib.OthersKept.refl _ _ _⟩

set_option maxHeartbeats 2000000 in
set_option maxRecDepth 100000 in
theorem writeString (B b : Nat) (bs : List Value) (s : ByteArray) (w : World) (h : Lib.IsBuilder 150 5 B b bs w) (hlen : bs.length + s.size ≤ 140737488355328) (hBw : B ≤ w.heap.size) :
    Calls Tryz.prog 114 #[.pointer (some ⟨b, 0, none⟩), .string s] w fun e w' => e = .returned (.tuple #[.int .i64 s.size, .nilIface]) ∧ (Lib.IsBuilder 150 5 B b (bs ++ Lib.strCells s) w' ∧ Below B w w' ∧ Lib.OthersKept 5 (some b) w w') := by
  obtain ⟨i0, hi, hz0, hz1, hz2⟩ := info_parts Tryz.Builder_Extra_169.infoByte
  go_enter Tryz.func114, Tryz.ntmps114
  go_wp2_with (go_at_call 145; refine (cc_any B b bs _ h).mono ?_)
  rintro e w1 ⟨rfl, h1, hb1, hk1⟩
  obtain ⟨hB, v, hbk, hown, hne⟩ := h1
  have c0 : w1.cell? ⟨b, 0, none⟩ = some (.pointer (some ⟨b, 0, none⟩)) := by rw [Lib.cell_of_heap hbk]; rfl
  have c1 : w1.cell? ⟨b, 1, none⟩ = some v := by rw [Lib.cell_of_heap hbk]; rfl
  go_wp2_with (at_builtin; refine Lib.wpList_append_own_string _ rfl _ _ 22 9 rfl B 5 i0 Tryz.underlying22 Tryz.underlying9 hi hz0 hz1 hz2 _ _ _ rfl hown s rfl ?c3 ?c4 ?c5 ?_)
  case c3 => unfold maxLen; omega
  case c4 => omega
  case c5 => have := hb1.size; omega
  intro v' w2 hown' hgrow _
  have hlt : b < w1.heap.size := by
    rcases Nat.lt_or_ge b w1.heap.size with h' | h'
    · exact h'
    · simp [Array.getElem?_eq_none h'] at hbk
  have hb2 : w2.heap[b]? = some (.cells #[.pointer (some ⟨b, 0, none⟩), v] 150 (0, 0)) := by
    rw [hgrow.block b hlt (fun e => hne e.symm)]
    exact hbk
  have d0 : w2.cell? ⟨b, 0, none⟩ = some (.pointer (some ⟨b, 0, none⟩)) := by rw [Lib.cell_of_heap hb2]; rfl
  have d1 : w2.cell? ⟨b, 1, none⟩ = some v := by rw [Lib.cell_of_heap hb2]; rfl
  have f1 : w2.frozen? ⟨b, 1, none⟩ = false := Lib.frozen_of_heap hb2 1
  obtain ⟨ao, n', cap, rfl⟩ : ∃ ao n' cap, v' = .slice ao n' cap := by
    rcases hown'.2 with ⟨hv, _⟩ | ⟨g, cap, cur, hv, _⟩
    · exact ⟨_, _, _, hv⟩
    · exact ⟨_, _, _, hv⟩
  go_wp2
  go_ret2
  refine ⟨rfl, ?_, ?_, (hk1.grown hgrow (row_kind hown)).setCell ⟨b, 1, none⟩ rfl _⟩
  · exact Or.inr (Lib.BuilderAt.put (T := 150) (e := 5) hB hb2 (bs' := bs ++ Lib.strCells s) (by simpa [Lib.strCells_length] using hown') (by decide))
  · exact (hb1.grown hgrow (by have := hb1.size; omega) (fun k hk => (hown.lt k hk).1)).setCell (p := ⟨b, 1, none⟩) hB _

end Go.Proofs.YtmghipjpgoghlaaGreat
