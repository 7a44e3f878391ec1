/- Contracts of strings.Builder at this program's own numbers: copyCheck, the writers, String; a builder that the call has made itself. Contract of impl.Unescaped: it answers what unescL says. The reader of a letter in the program: contracts of keepText and endText. The reader of a letter in the program: contract of value. -/
import Derived.Test.YteninofjeidljaaGreatRows
import Derived.Test.YteninofjeidljaaGreatM10
import Derived.Test.YteninofjeidljaaGreatM9
import Derived.Test.YteninofjeidljaaGreatM1
import Derived.Test.YteninofjeidljaaGreatM5
import Derived.WalkKit
import Derived.OwnWalk
import Derived.Lib.Builder
import Derived.Lib.OthersKept
import Derived.Lib.AppendStr
import Derived.Laws.Externs
namespace Go.Proofs.YteninofjeidljaaGreat

open Go.RowKit

theorem row_kind {w : World} {B : Nat} {e : TypeId} {v : Value} {n : Nat} {xs : List Value} (h : w.ownsRow B e 1 v n xs) : ∀ g, v.ownBlock = some g → ∃ c fz, w.heap[g]? = some (.cells c e fz) := by
  intro g hg
  rcases h.2 with ⟨rfl, _⟩ | ⟨g', cap, cur, rfl, _, hgg, _⟩
  · simp [Value.ownBlock] at hg
  · simp [Value.ownBlock] at hg
    subst hg
    exact ⟨cur, _, hgg⟩

set_option maxRecDepth 100000 in
theorem cc_used (b : Nat) (w : World) (h0 : w.cell? ⟨b, 0, none⟩ = some (.pointer (some ⟨b, 0, none⟩))) :
    Calls Tryz.prog 86 #[.pointer (some ⟨b, 0, none⟩)] w fun e w' => e = .returned (.tuple #[]) ∧ w' = w := by
  obtain ⟨j, hj, _⟩ := Option.map_eq_some_iff.1 Tryz.Builder_Extra_169.sizeBuilder
  go_enter Tryz.func86, Tryz.ntmps86
  go_wp2
  rw [Lib.run_neq_ptr_same w _ Tryz.underlying45 hj]
  go_wp2
  go_end0
  exact ⟨rfl, rfl⟩

set_option maxHeartbeats 1000000 in
set_option maxRecDepth 100000 in
theorem cc_fresh (b : Nat) (w : World) (h0 : w.cell? ⟨b, 0, none⟩ = some (.pointer none)) (hsh : w.shape? b = some (47, 2)) (hfz : w.frozen? ⟨b, 0, none⟩ = false) :
    Calls Tryz.prog 86 #[.pointer (some ⟨b, 0, none⟩)] w fun e w' => e = .returned (.tuple #[]) ∧ w' = w.setCell ⟨b, 0, none⟩ (.pointer (some ⟨b, 0, none⟩)) := by
  obtain ⟨j, hj, hjs⟩ := Option.map_eq_some_iff.1 Tryz.Builder_Extra_169.sizeBuilder
  go_enter Tryz.func86, Tryz.ntmps86
  go_wp2
  rw [Lib.run_to_unsafe w ⟨b, 0, none⟩ Tryz.underlying45 Tryz.underlying166 hj (by rw [hjs]; decide) hsh (Nat.zero_lt_succ 1)]
  simp only [Result.andThen]
  rw [Oper.upon_value]
  go_wp2
  rw [run_callFunc_extern Tryz.func131 (by kernel_rfl) (by kernel_rfl) (by kernel_rfl) (e := Extern.AbiNoEscape.same) (by kernel_rfl)]
  rw [Lib.run_noEscape]
  simp only [Result.andThen]
  rw [Oper.upon_value]
  go_wp2
  rw [Lib.run_from_unsafe w ⟨b, 0, none⟩ Tryz.underlying166 Tryz.underlying45 hj hsh Tryz.Builder_Extra_169.liesBuilder]
  simp only [Result.andThen]
  rw [Oper.upon_value]
  go_wp2
  go_end0
  exact ⟨rfl, rfl⟩

theorem cc_any (B b : Nat) (bs : List Value) (w : World) (h : Lib.IsBuilder 47 5 B b bs w) :
    Calls Tryz.prog 86 #[.pointer (some ⟨b, 0, none⟩)] w fun e w' => e = .returned (.tuple #[]) ∧ (Lib.BuilderAt 47 5 B b (.pointer (some ⟨b, 0, none⟩)) bs w' ∧ Below B w w' ∧ Lib.OthersKept 5 (some b) w w') := by
  rcases h with h | h
  · refine (cc_fresh b w h.cell0 h.shape h.frozen0).mono ?_
    rintro e w' ⟨rfl, rfl⟩
    exact ⟨rfl, h.used _, (Below.refl B w).setCell (p := ⟨b, 0, none⟩) h.1 _, (Lib.OthersKept.refl _ _ w).setCell ⟨b, 0, none⟩ rfl _⟩
  · refine (cc_used b w h.cell0).mono ?_
    rintro e w' ⟨rfl, rfl⟩
    exact ⟨rfl, h, Below.refl B _, Lib.OthersKept.refl _ _ _⟩

set_option maxHeartbeats 2000000 in
set_option maxRecDepth 100000 in
theorem writeString (B b : Nat) (bs : List Value) (s : ByteArray) (w : World) (h : Lib.IsBuilder 47 5 B b bs w) (hlen : bs.length + s.size ≤ 140737488355328) (hBw : B ≤ w.heap.size) :
    Calls Tryz.prog 31 #[.pointer (some ⟨b, 0, none⟩), .string s] w fun e w' => e = .returned (.tuple #[.int .i64 s.size, .nilIface]) ∧ (Lib.IsBuilder 47 5 B b (bs ++ Lib.strCells s) w' ∧ Below B w w' ∧ Lib.OthersKept 5 (some b) w w') := by
  obtain ⟨i0, hi, hz0, hz1, hz2⟩ := info_parts Tryz.Builder_Extra_169.infoByte
  go_enter Tryz.func31, Tryz.ntmps31
  go_wp2_with (go_at_call 86; refine (cc_any B b bs _ h).mono ?_)
  rintro e w1 ⟨rfl, h1, hb1, hk1⟩
  obtain ⟨hB, v, hbk, hown, hne⟩ := h1
  have c0 : w1.cell? ⟨b, 0, none⟩ = some (.pointer (some ⟨b, 0, none⟩)) := by rw [Lib.cell_of_heap hbk]; rfl
  have c1 : w1.cell? ⟨b, 1, none⟩ = some v := by rw [Lib.cell_of_heap hbk]; rfl
  go_wp2_with (at_builtin; refine Lib.wpList_append_own_string _ rfl _ _ 22 9 rfl B 5 i0 Tryz.underlying22 Tryz.underlying9 hi hz0 hz1 hz2 _ _ _ rfl hown s rfl ?c3 ?c4 ?c5 ?_)
  case c3 => unfold maxLen; omega
  case c4 => omega
  case c5 => have := hb1.size; omega
  intro v' w2 hown' hgrow _
  have hlt : b < w1.heap.size := by
    rcases Nat.lt_or_ge b w1.heap.size with h' | h'
    · exact h'
    · simp [Array.getElem?_eq_none h'] at hbk
  have hb2 : w2.heap[b]? = some (.cells #[.pointer (some ⟨b, 0, none⟩), v] 47 (0, 0)) := by
    rw [hgrow.block b hlt (fun e => hne e.symm)]
    exact hbk
  have d0 : w2.cell? ⟨b, 0, none⟩ = some (.pointer (some ⟨b, 0, none⟩)) := by rw [Lib.cell_of_heap hb2]; rfl
  have d1 : w2.cell? ⟨b, 1, none⟩ = some v := by rw [Lib.cell_of_heap hb2]; rfl
  have f1 : w2.frozen? ⟨b, 1, none⟩ = false := Lib.frozen_of_heap hb2 1
  obtain ⟨ao, n', cap, rfl⟩ : ∃ ao n' cap, v' = .slice ao n' cap := by
    rcases hown'.2 with ⟨hv, _⟩ | ⟨g, cap, cur, hv, _⟩
    · exact ⟨_, _, _, hv⟩
    · exact ⟨_, _, _, hv⟩
  go_wp2
  go_ret2
  refine ⟨rfl, ?_, ?_, (hk1.grown hgrow (row_kind hown)).setCell ⟨b, 1, none⟩ rfl _⟩
  · exact Or.inr (Lib.BuilderAt.put (T := 47) (e := 5) hB hb2 (bs' := bs ++ Lib.strCells s) (by simpa [Lib.strCells_length] using hown') (by decide))
  · exact (hb1.grown hgrow (by have := hb1.size; omega) (fun k hk => (hown.lt k hk).1)).setCell (p := ⟨b, 1, none⟩) hB _

set_option maxHeartbeats 2000000 in
set_option maxRecDepth 100000 in
theorem writeByte (B b : Nat) (bs : List Value) (c : Int) (w : World) (h : Lib.IsBuilder 47 5 B b bs w) (hlen : bs.length + 1 ≤ 140737488355328) (hBw : B ≤ w.heap.size) :
    Calls Tryz.prog 182 #[.pointer (some ⟨b, 0, none⟩), .int .u8 c] w fun e w' => e = .returned .nilIface ∧ (Lib.IsBuilder 47 5 B b (bs ++ [.int .u8 c]) w' ∧ Below B w w' ∧ Lib.OthersKept 5 (some b) w w') := by
  obtain ⟨i0, hi, hz0, hz1, hz2⟩ := info_parts Tryz.Builder_Extra_169.infoByte
  go_enter Tryz.func182, Tryz.ntmps182
  go_wp2_with (go_at_call 86; refine (cc_any B b bs _ h).mono ?_)
  rintro e w1 ⟨rfl, h1, hb1, hk1⟩
  obtain ⟨hB, v, hbk, hown, hne⟩ := h1
  have c0 : w1.cell? ⟨b, 0, none⟩ = some (.pointer (some ⟨b, 0, none⟩)) := by rw [Lib.cell_of_heap hbk]; rfl
  have c1 : w1.cell? ⟨b, 1, none⟩ = some v := by rw [Lib.cell_of_heap hbk]; rfl
  go_wp2_with (at_builtin; refine wpList_append_own _ rfl _ _ 22 rfl B 5 i0 (.int .u8 0) 1 1 Tryz.underlying22 hi hz0 hz1 hz2 rfl (by decide) _ _ _ rfl (hown.alloc _) ⟨w1.heap.size, 0, none⟩ 1 1 [.int .u8 c] rfl rfl ?c1 ?c2 ?c3 ?c4 ?c5 ?_)
  case c1 =>
    intro j u hj
    match j, hj with
    | 0, hj => simp at hj; subst hj; simp [Addr.add]
  case c2 => intro u hu; simp at hu; subst hu; rfl
  case c3 => unfold maxLen; omega
  case c4 => omega
  case c5 => have := hb1.size; simp; omega
  intro v' w2 hown' hgrow _
  have hlt : b < w1.heap.size := by
    rcases Nat.lt_or_ge b w1.heap.size with h' | h'
    · exact h'
    · simp [Array.getElem?_eq_none h'] at hbk
  have hb2 : w2.heap[b]? = some (.cells #[.pointer (some ⟨b, 0, none⟩), v] 47 (0, 0)) := by
    rw [hgrow.block b (by simp; omega) (fun e => hne e.symm), Lib.alloc_old w1 _ b hlt]
    exact hbk
  have d0 : w2.cell? ⟨b, 0, none⟩ = some (.pointer (some ⟨b, 0, none⟩)) := by rw [Lib.cell_of_heap hb2]; rfl
  have d1 : w2.cell? ⟨b, 1, none⟩ = some v := by rw [Lib.cell_of_heap hb2]; rfl
  have f1 : w2.frozen? ⟨b, 1, none⟩ = false := Lib.frozen_of_heap hb2 1
  obtain ⟨g, cap, rfl⟩ : ∃ g cap, v' = .slice (some ⟨g, 0, none⟩) (bs.length + 1) cap := by
    rcases hown'.2 with ⟨_, h0⟩ | ⟨g, cap, cur, hv, _⟩
    · omega
    · exact ⟨g, cap, hv⟩
  go_wp2
  go_ret
  refine ⟨rfl, ?_, ?_, ((hk1.alloc _).grown hgrow (row_kind (hown.alloc _))).setCell ⟨b, 1, none⟩ rfl _⟩
  · exact Or.inr (Lib.BuilderAt.put (T := 47) (e := 5) hB hb2 (bs' := bs ++ [.int .u8 c]) (by simpa using hown') (by decide))
  · exact ((hb1.alloc (by have := hb1.size; omega) _).grown hgrow (by have := hb1.size; simp; omega) (fun k hk => (hown.lt k hk).1)).setCell (p := ⟨b, 1, none⟩) hB _

end Go.Proofs.YteninofjeidljaaGreat

namespace Go.Proofs.YteninofjeidljaaGreat

open Go.RowKit

set_option linter.unusedVariables false

set_option linter.unusedSimpArgs false

theorem szE (s : ByteArray) : s.size = s.data.toList.length := rfl

theorem ext_list (s : ByteArray) (k : Nat) : (s.extract k s.size).data.toList = s.data.toList.drop k := by
  rw [ByteArray.data_extract, Array.toList_extract, List.extract_eq_take_drop]
  exact List.take_of_length_le (by rw [List.length_drop, szE s]; exact Nat.le_refl _)

theorem ext_size (s : ByteArray) (k : Nat) : (s.extract k s.size).size = s.size - k := by
  rw [szE (s.extract k s.size), ext_list, List.length_drop, szE s]

theorem drop_ne (s : ByteArray) (k : Nat) (h : k < s.size) : s.data.toList.drop k ≠ [] := by
  intro e
  have := congrArg List.length e
  rw [List.length_drop, ← szE s] at this
  simp only [List.length_nil] at this
  omega

theorem drop_len (s : ByteArray) (k : Nat) : (s.data.toList.drop k).length = s.size - k := by rw [List.length_drop, szE s]

/-- What the loop holds at its head, at position k. -/
def Reads (s : ByteArray) (k : Nat) (acc : List UInt8) : Prop :=
  acc.length ≤ k ∧ ∃ f, s.size - k ≤ f ∧ runU s.data.toList.length s.data.toList [] = runU f (s.data.toList.drop k) acc

theorem reads_start (s : ByteArray) : Reads s 0 [] := ⟨Nat.le_refl _, s.data.toList.length, by rw [szE s]; exact Nat.sub_le _ _, rfl⟩

theorem reads_step {s : ByteArray} {k : Nat} {acc : List UInt8} {x : UInt8} {n : Nat} (h : Reads s k acc) (hlt : k < s.size) (hr : readL (s.data.toList.drop k) = some (x, n)) : Reads s (k + n) (acc ++ [x]) := by
  obtain ⟨hl, f, hf, he⟩ := h
  have hb := readL_le _ _ _ hr
  have hd := drop_len s k
  cases f with
  | zero => omega
  | succ f =>
    refine ⟨by rw [List.length_append]; simp; omega, f, by omega, ?_⟩
    rw [he, runU_step f _ _ x n (by omega) (drop_ne s k hlt) hr, List.drop_drop]

theorem reads_none {s : ByteArray} {k : Nat} {acc : List UInt8} (h : Reads s k acc) (hlt : k < s.size) (hp : plainL s.data.toList = true) (hr : readL (s.data.toList.drop k) = none) : unescL s.data.toList = none := by
  obtain ⟨hl, f, hf, he⟩ := h
  rw [unescL, if_pos hp, he]
  exact runU_stop f _ _ (by rw [drop_len]; exact hf) (drop_ne s k hlt) hr

theorem reads_end {s : ByteArray} {k : Nat} {acc : List UInt8} (h : Reads s k acc) (hlt : ¬ k < s.size) (hp : plainL s.data.toList = true) : unescL s.data.toList = some acc := by
  obtain ⟨hl, f, hf, he⟩ := h
  have hd : s.data.toList.drop k = [] := List.drop_of_length_le (by rw [← szE s]; omega)
  rw [unescL, if_pos hp, he, hd]
  exact runU_end f acc

theorem unesc_no {s : ByteArray} (hp : plainL s.data.toList = false) : unescL s.data.toList = none := by
  rw [unescL, if_neg (by simp [hp])]

theorem byteCells_snoc (acc : List UInt8) (x : UInt8) : Lib.byteCells (acc ++ [x]) = Lib.byteCells acc ++ [.int .u8 x.toNat] := by simp [Lib.byteCells]

set_option maxRecDepth 100000 in
set_option maxHeartbeats 1000000 in
theorem c_impl_Unescaped_no (s : ByteArray) (w : World) (h0 : s.size ≤ 1048576) (hp : plainL s.data.toList = false) :
    Calls Tryz.prog 165 #[.string s] w fun e w' => e = .returned (.tuple #[.string ⟨(outU (unescL s.data.toList)).toArray⟩, .bool (unescL s.data.toList).isSome]) ∧ Below w.heap.size w w' := by
  rw [unesc_no hp]
  go_enter Tryz.func165, Tryz.ntmps165
  go_wp2_with (go_at_call 101; refine (c_impl_PlainOk _ _ (by unfold maxLen; omega)).mono ?_; rintro e w' ⟨rfl, rfl⟩)
  go_ret2
  exact ⟨rfl, Below.refl _ _⟩

set_option maxRecDepth 100000 in
set_option maxHeartbeats 1000000 in
theorem c_impl_Unescaped_yes (s : ByteArray) (w : World) (h0 : s.size ≤ 1048576) (hp : plainL s.data.toList = true) :
    Calls Tryz.prog 165 #[.string s] w fun e w' => e = .returned (.tuple #[.string ⟨(outU (unescL s.data.toList)).toArray⟩, .bool (unescL s.data.toList).isSome]) ∧ Below w.heap.size w w' := by
  go_enter Tryz.func165, Tryz.ntmps165
  go_wp2_with (go_at_call 101; refine (c_impl_PlainOk _ _ (by unfold maxLen; omega)).mono ?_; rintro e w' ⟨rfl, rfl⟩)
  have HP : Hid (plainL s.data.toList = true) := hp
  clear hp
  go_loopw [5] (fun i wr => ∃ (k : Nat) (acc : List UInt8), k ≤ s.size ∧ i = .int .i64 k ∧ Reads s k acc ∧ Lib.IsBuilder 47 5 w'.heap.size w'.heap.size (Lib.byteCells acc) wr ∧ Below w'.heap.size w' wr) (fun i _ => s.size - (intOf i).toNat)
  case atStart => exact ⟨0, [], Nat.zero_le _, rfl, reads_start s, Lib.fresh_isBuilder 47 5 _, (Below.refl _ _).alloc (Nat.le_refl _) _⟩
  case round =>
    obtain ⟨k, acc, hk, rfl, hR, hI, hB⟩ := hrel
    have hsz := hB.size
    have HI : Hid (Lib.IsBuilder 47 5 w'.heap.size w'.heap.size (Lib.byteCells acc) wr) := hI
    have HR : Hid (Reads s k acc) := hR
    have hal : acc.length ≤ k := hR.1
    clear hI hR
    by_cases hlt : k < s.size
    · have hes := ext_size s k
      have hel := ext_list s k
      have ht : 0 < (s.extract k s.size).size := by rw [hes]; omega
      have hm : (s.extract k s.size).size ≤ 9223372036854775807 := by rw [hes]; omega
      cases hr : readL (s.data.toList.drop k) with
      | none =>
        have hr' : readL (s.extract k s.size).data.toList = none := by rw [hel]; exact hr
        have C := fun w => c_impl_readSign_no (s.extract k s.size) w ht hm hr'
        have HU : Hid (unescL s.data.toList = none) := reads_none HR.out hlt HP.out hr
        clear hes hel hr hr' ht hm
        go_wp2_with (go_at_call 181; refine (C _).mono ?_; rintro e w1 ⟨rfl, rfl⟩)
        go_ret2
        exact ⟨by rw [HU.out]; rfl, hB⟩
      | some p =>
        obtain ⟨x, n⟩ := p
        have hr' : readL (s.extract k s.size).data.toList = some (x, n) := by rw [hel]; exact hr
        have C := fun w => c_impl_readSign_some (s.extract k s.size) w ht hm x n hr'
        have hn := readL_le _ _ _ hr
        rw [drop_len] at hn
        have hn1 := hn.1
        have hn2 : k + n ≤ s.size := by omega
        have HS : Hid (Reads s (k + n) (acc ++ [x])) := reads_step HR.out hlt hr
        clear hes hel hr hr' ht hm hn
        go_wp2_with (first
          | (go_at_call 181; refine (C _).mono ?_; rintro e w1 ⟨rfl, rfl⟩)
          | (go_at_call 182; refine (writeByte _ _ _ _ _ HI.out (by rw [Lib.byteCells_length]; omega) hsz).mono ?_; rintro e w2 ⟨rfl, hI2, hb2, _⟩))
        go_roundw
        case rel => exact ⟨k + n, acc ++ [x], by omega, by go_num, HS.out, by rw [byteCells_snoc]; exact hI2, hB.trans hb2⟩
        case measure => simp [intOf]; omega
    · have HU : Hid (unescL s.data.toList = some acc) := reads_end HR.out hlt HP.out
      go_wp2_with (go_at_call 33; refine (Tryz.Builder_String_any _ _ _ _ HI.out hsz).mono ?_; rintro e w2 ⟨rfl, hb2⟩)
      go_ret2
      exact ⟨by rw [HU.out]; rfl, hB.trans hb2⟩

theorem c_impl_Unescaped (s : ByteArray) (w : World) (h0 : s.size ≤ 1048576) :
    Calls Tryz.prog 165 #[.string s] w fun e w' => e = .returned (.tuple #[.string ⟨(outU (unescL s.data.toList)).toArray⟩, .bool (unescL s.data.toList).isSome]) ∧ Below w.heap.size w w' := by
  cases hp : plainL s.data.toList
  · exact c_impl_Unescaped_no s w h0 hp
  · exact c_impl_Unescaped_yes s w h0 hp

end Go.Proofs.YteninofjeidljaaGreat

namespace Go.Proofs.YteninofjeidljaaGreat

open Go.RowKit

set_option linter.unusedVariables false

set_option linter.unusedSimpArgs false

/-- A piece, unescaped; nothing where it can't be. -/
def unS (x : ByteArray) : ByteArray := ⟨(outU (unescL x.data.toList)).toArray⟩

set_option maxRecDepth 8000 in
set_option maxHeartbeats 8000000 in
theorem cKeepText (B g : Nat) (s : ByteArray) (p m : Nat) (tx : ByteArray) (v : Value) (es : List Tn.E) (w : World) (h : RdT w B g s p m tx v es) (h1 : m + 1 ≤ p) (h2 : p ≤ s.size + 1) (hs : s.size ≤ 4000) (ht : tx.size ≤ 100000000) (hu : (unS (pieceS s m p)).size ≤ 100000000) :
    Calls Tryz.prog 142 #[.pointer (some ⟨g, 0, none⟩)] w fun x w' => x = .returned (.bool (unescL (pieceS s m p).data.toList).isSome) ∧ RdT w' B g s p m (tx ++ unS (pieceS s m p)) v es ∧ Below g w w' := by
  have HT := hid h
  have hgl := lt_of_heap h.rdr.heap
  have CP := hid (cPiece g s p m tx v w h.rdr h1 h2 (by omega))
  have hpz : (pieceS s m p).size ≤ 1048576 := by unfold pieceS; rw [ByteArray.size_extract]; omega
  have CU := hid (fun wx => show Calls Tryz.prog 165 #[.string (pieceS s m p)] wx fun e w' => e = .returned (.tuple #[.string (unS (pieceS s m p)), .bool (unescL (pieceS s m p).data.toList).isSome]) ∧ Below wx.heap.size wx w' from c_impl_Unescaped (pieceS s m p) wx hpz)
  clear h h1 h2 hpz
  generalize unS (pieceS s m p) = U at *
  generalize (unescL (pieceS s m p).data.toList).isSome = OK at *
  generalize pieceS s m p = X at *
  go_enter Tryz.func142, Tryz.ntmps142
  go_wp2_with fail
  refine CP.out.mono ?_
  rintro e w1 ⟨rfl, hb1⟩
  have HB1 := hid hb1
  clear hb1 CP
  go_wp2_with fail
  refine (CU.out _).mono ?_
  rintro e w2 ⟨rfl, hb2⟩
  have HB2 := hid (bb HB1.out hb2)
  have HT2 := hid (HT.out.below HB2.out)
  obtain ⟨⟨-, -, -, c3, -⟩, hfz⟩ := HT2.out.rdr.cells
  have f3 := hfz 3
  have hsz : ¬ 9223372036854775807 < tx.size + U.size := by omega
  have HN := hid (HT2.out.rdr.setT (tx ++ U))
  have HF := hid (HT2.out.next HN.out (KeepB.of_set w2 3 (.string (tx ++ U)) rfl))
  have HBF := hid (((HB2.out.mono (Nat.le_of_lt hgl)).setCell (p := ⟨g, 3, none⟩) (Nat.le_refl _) (.string (tx ++ U))))
  clear hb2 CU hfz
  go_wp2_with fail
  go_ret
  exact ⟨rfl, HF.out, HBF.out⟩

/-- The text so far is a token, if it has a sign. -/
def flushE (tx : ByteArray) (es : List Tn.E) : List Tn.E := if tx.size = 0 then es else es ++ [⟨⟨3, ⟨#[]⟩, [], tx⟩, none, 0⟩]

noncomputable def flushB (tx : ByteArray) (es : List Tn.E) : Bool := if tx.size = 0 then true else decide (es.length + 1 ≤ 120) && tokB ⟨3, ⟨#[]⟩, [], tx⟩

set_option maxRecDepth 8000 in
set_option maxHeartbeats 8000000 in
theorem cEndText (B g : Nat) (s : ByteArray) (p m : Nat) (tx : ByteArray) (v : Value) (es : List Tn.E) (w : World) (h : RdT w B g s p m tx v es) (hn : es.length ≤ 1000) (ht : tx.size ≤ 1048576) :
    Calls Tryz.prog 143 #[.pointer (some ⟨g, 0, none⟩)] w fun x w' => x = .returned (.bool (flushB tx es)) ∧ (∃ v', RdT w' B g s p m ⟨#[]⟩ v' (flushE tx es)) ∧ Below g w w' := by
  have HT := hid h
  have hgl := lt_of_heap h.rdr.heap
  obtain ⟨⟨-, -, -, c3, -⟩, hfz⟩ := h.rdr.cells
  have f3 := hfz 3
  have HN := hid (h.rdr.setT ⟨#[]⟩)
  have HF := hid (h.next HN.out (KeepB.of_set w 3 (.string ⟨#[]⟩) rfl))
  have HBF := hid (((Below.refl g w).setCell (p := ⟨g, 3, none⟩) (Nat.le_refl _) (.string ⟨#[]⟩)))
  have E1 := empty_is tx
  clear h hfz
  by_cases h0 : tx.size = 0
  · rw [decide_eq_true h0] at E1
    have HX := hid (And.intro (show flushB tx es = true by unfold flushB; rw [if_pos h0]) (show flushE tx es = es by unfold flushE; rw [if_pos h0]))
    rw [HX.out.1, HX.out.2]
    clear h0
    go_enter Tryz.func143, Tryz.ntmps143
    go_wp2_with fail
    go_ret
    exact ⟨rfl, ⟨v, HF.out⟩, HBF.out⟩
  · rw [decide_eq_false h0] at E1
    have HX := hid (And.intro (show flushB tx es = (decide (es.length + 1 ≤ 120) && tokB ⟨3, ⟨#[]⟩, [], tx⟩) by unfold flushB; rw [if_neg h0]) (show flushE tx es = es ++ [⟨⟨3, ⟨#[]⟩, [], tx⟩, none, 0⟩] by unfold flushE; rw [if_neg h0]))
    rw [HX.out.1, HX.out.2]
    have CAD := hid (show Calls Tryz.prog 167 #[.pointer (some ⟨g, 0, none⟩), .agg #[.int .i64 3, .string ⟨#[]⟩, .slice none 0 0, .string tx]] (w.setCell ⟨g, 3, none⟩ (.string ⟨#[]⟩)) fun x w' => x = .returned (.bool (decide (es.length + 1 ≤ 120) && tokB ⟨3, ⟨#[]⟩, [], tx⟩)) ∧ (∃ v', RdT w' B g s p m ⟨#[]⟩ v' (es ++ [⟨⟨3, ⟨#[]⟩, [], tx⟩, none, 0⟩])) ∧ Below g (w.setCell ⟨g, 3, none⟩ (.string ⟨#[]⟩)) w' ∧ KeepB (fun k => k = g ∨ v.ownBlock = some k) (w.setCell ⟨g, 3, none⟩ (.string ⟨#[]⟩)) w' from
      cAdd B g s p m ⟨#[]⟩ v es ⟨⟨3, ⟨#[]⟩, [], tx⟩, none, 0⟩ _ HF.out ⟨fun h => absurd h (Nat.not_lt_zero _), fun g o h => absurd h (Nat.not_lt_zero _), fun x hx _ h => absurd h (Nat.not_lt_zero _)⟩ ⟨Nat.zero_le _, Nat.zero_le _, fun x hx => absurd hx List.not_mem_nil, ht⟩ hn)
    obtain ⟨TB, hTB⟩ : ∃ TB, (decide (es.length + 1 ≤ 120) && tokB ⟨3, ⟨#[]⟩, [], tx⟩) = TB := ⟨_, rfl⟩
    rw [hTB] at CAD ⊢
    clear h0 hTB HX
    go_enter Tryz.func143, Tryz.ntmps143
    go_wp2_with fail
    refine CAD.out.mono ?_
    rintro e w1 ⟨rfl, hx1, hb1, -⟩
    have HX1 := hid hx1
    have HB1 := hid (HBF.out.trans hb1)
    clear hx1 hb1 CAD
    go_wp2_with fail
    go_ret
    exact ⟨rfl, HX1.out, HB1.out⟩

end Go.Proofs.YteninofjeidljaaGreat

namespace Go.Proofs.YteninofjeidljaaGreat

open Go.RowKit

set_option linter.unusedVariables false

set_option linter.unusedSimpArgs false

/-- On the way to the next sign of some kind, from b on. -/
structure ScSt (T : Nat → Bool) (B g : Nat) (s : ByteArray) (b m : Nat) (tx : ByteArray) (v : Value) (es : List Tn.E) (w : World) (q : Nat) (wr : World) : Prop where
  rdt : RdT wr B g s q m tx v es
  ge : b ≤ q
  le : q ≤ s.size
  no : ∀ i (hi : i < s.size), b ≤ i → i < q → T s[i].toNat = false
  bel : KeepB (fun k => k = g) w wr

/-- The first sign of that kind, from b on, stands there. -/
def StopsAt (T : Nat → Bool) (s : ByteArray) (b q : Nat) : Prop := b ≤ q ∧ (∃ h : q < s.size, T s[q].toNat = true) ∧ ∀ i (hi : i < s.size), b ≤ i → i < q → T s[i].toNat = false

theorem StopsAt.same {T : Nat → Bool} {s : ByteArray} {b q q2 : Nat} (h : StopsAt T s b q) (h2 : StopsAt T s b q2) : q = q2 := by
  obtain ⟨hq, ht⟩ := h.2.1
  obtain ⟨hq2, ht2⟩ := h2.2.1
  rcases Nat.lt_trichotomy q q2 with h' | h' | h'
  · have := h2.2.2 q hq h.1 h'
    rw [this] at ht
    cases ht
  · exact h'
  · have := h.2.2 q2 hq2 h2.1 h'
    rw [this] at ht2
    cases ht2

section

variable {T : Nat → Bool} {B g : Nat} {s : ByteArray} {b m : Nat} {tx : ByteArray} {v : Value} {es : List Tn.E} {w wr w' : World} {q : Nat}

theorem ScSt.found (h : ScSt T B g s b m tx v es w q wr) (hq : q < s.size) (h2 : T s[q].toNat = true) : StopsAt T s b q := ⟨h.ge, ⟨hq, h2⟩, h.no⟩

theorem ScSt.more (h : ScSt T B g s b m tx v es w q wr) (hq : q < s.size) (h2 : T s[q].toNat = false) (hr : Rdr w' g s (q + 1) m tx v) (hk : KeepB (fun k => k = g) wr w') : ScSt T B g s b m tx v es w (q + 1) w' :=
  ⟨h.rdt.next hr hk, Nat.le_succ_of_le h.ge, hq, fun i hi h1 h3 => by
    rcases Nat.lt_or_eq_of_le (Nat.le_of_lt_succ h3) with h' | h'
    · exact h.no i hi h1 h'
    · subst h'; exact h2, h.bel.trans hk⟩

theorem ScSt.less (h : ScSt T B g s b m tx v es w q wr) (h2 : ScSt T B g s b m tx v es w (q + 1) w') : s.size + 1 - rdAt w' g < s.size + 1 - rdAt wr g := by
  rw [rdAt_is h.rdt.rdr, rdAt_is h2.rdt.rdr]
  have := h2.le
  omega

end

/-- What ends a value, or breaks it off. -/
def valT (c : Nat) : Bool := c == 34 || c == 60

/-- There is no value there. -/
def ValBad (s : ByteArray) (p : Nat) : Prop := (¬ ∃ h : p < s.size, s[p].toNat = 34) ∨ ((∃ h : p < s.size, s[p].toNat = 34) ∧ ∀ q, StopsAt valT s (p + 1) q → ¬ ∃ h : q < s.size, s[q].toNat = 34)

/-- What value answers. -/
def ValPost (B g : Nat) (s : ByteArray) (p : Nat) (tx : ByteArray) (v : Value) (es : List Tn.E) (w : World) (x : Ending) (w' : World) : Prop :=
  KeepB (fun k => k = g) w w' ∧ ((ValBad s p ∧ x = .returned (.tuple #[.string ⟨#[]⟩, .bool false])) ∨ ∃ q, (∃ h : p < s.size, s[p].toNat = 34) ∧ StopsAt valT s (p + 1) q ∧ (∃ h : q < s.size, s[q].toNat = 34) ∧ x = .returned (.tuple #[.string (unS (s.extract (p + 1) q)), .bool (unescL (s.extract (p + 1) q).data.toList).isSome]) ∧ RdT w' B g s (q + 1) (p + 1) tx v es)

theorem ValPost.bad {B g : Nat} {s : ByteArray} {p : Nat} {tx : ByteArray} {v : Value} {es : List Tn.E} {w w' : World} (h : ValBad s p) (hb : KeepB (fun k => k = g) w w') : ValPost B g s p tx v es w (.returned (.tuple #[.string ⟨#[]⟩, .bool false])) w' := ⟨hb, .inl ⟨h, rfl⟩⟩

theorem ValPost.good {B g : Nat} {s : ByteArray} {p q : Nat} {tx : ByteArray} {v : Value} {es : List Tn.E} {w w' : World} (h1 : ∃ h : p < s.size, s[p].toNat = 34) (h2 : StopsAt valT s (p + 1) q) (h3 : ∃ h : q < s.size, s[q].toNat = 34) (hr : RdT w' B g s (q + 1) (p + 1) tx v es) (hb : KeepB (fun k => k = g) w w') :
    ValPost B g s p tx v es w (.returned (.tuple #[.string (unS (s.extract (p + 1) q)), .bool (unescL (s.extract (p + 1) q).data.toList).isSome])) w' := ⟨hb, .inr ⟨q, h1, h2, h3, rfl, hr⟩⟩

set_option maxRecDepth 8000 in
set_option maxHeartbeats 8000000 in
theorem cValue (B g : Nat) (s : ByteArray) (p m : Nat) (tx : ByteArray) (v : Value) (es : List Tn.E) (w : World) (h : RdT w B g s p m tx v es) (hp : p ≤ s.size) (hs : s.size ≤ 4000) (h0 : ∀ i (hi : i < s.size), ¬ s[i].toNat = 0) :
    Calls Tryz.prog 168 #[.pointer (some ⟨g, 0, none⟩)] w (ValPost B g s p tx v es w) := by
  have HT := hid h
  have CN0 := hid (cNext g s p m tx v w h.rdr (by omega) (by omega))
  have hgl := lt_of_heap h.rdr.heap
  clear h
  go_enter Tryz.func168, Tryz.ntmps168
  go_wp2_with fail
  by_cases h34p : ∃ h : p < s.size, s[p].toNat = 34
  · have H34 := hid h34p
    refine wp_scope_jumps 0 (fun a' w' => ∃ (q : Nat) (u4 u5 u6 u7 u8 u9 u10 u11 u12 u13 u14 u15 u16 u17 u18 u19 u20 : Value), a' = { tmps := #[.pointer (some ⟨g, 0, none⟩), undef, .string ⟨#[]⟩, .bool false, u4, u5, u6, u7, u8, u9, u10, u11, u12, u13, u14, u15, u16, u17, u18, u19, u20], defers := [] } ∧ Hid (ScSt valT B g s (p + 1) (p + 1) tx v es w q w')) (fun _ w' => s.size + 1 - rdAt w' g) rfl ?_ ?_
    · have HSG := hid (show sgnAt s p = 34 by obtain ⟨hq, hc⟩ := h34p; unfold sgnAt; rw [dif_pos hq]; exact hc)
      rw [HSG.out] at CN0
      go_wp2_with fail
      refine CN0.out.mono ?_
      rintro e w0 ⟨rfl, hr0, hk0⟩
      have HR0 := hid (HT.out.next hr0 hk0)
      have HB0 := hid hk0
      have CM := hid (cMark g s (p + 1) m tx v w0 hr0)
      clear hr0 hk0 CN0
      go_wp2_with fail
      refine CM.out.mono ?_
      rintro e w1 ⟨rfl, hr1, hk1⟩
      obtain ⟨q, hqp⟩ : ∃ q, q = p + 1 := ⟨_, rfl⟩
      have ST := hid (show ScSt valT B g s (p + 1) (p + 1) tx v es w q w1 from ⟨by rw [hqp]; exact HR0.out.next hr1 hk1, by omega, by obtain ⟨hq, _⟩ := h34p; omega, fun i hi h1 h2 => by omega, HB0.out.trans hk1⟩)
      clear hr1 hk1 CM hqp HR0 HB0 h34p
      go_wp2_with fail
      go_step3
      have CN := hid (cNext g s q (p + 1) tx v w1 ST.out.rdt.rdr (by have := ST.out.le; omega) (by omega))
      go_wp2_with fail
      refine CN.out.mono ?_
      rintro e w2 ⟨rfl, hr2, hk2⟩
      have HR2 := hid hr2
      have HK2 := hid hk2
      have HB2 := hid (ST.out.bel.trans HK2.out)
      clear hr2 hk2 CN
      by_cases hq : q < s.size
      · have HSG := hid (show sgnAt s q = s[q].toNat by unfold sgnAt; rw [dif_pos hq])
        have hz := h0 q hq
        rw [HSG.out]
        have hne0 : (((s[q].toNat : Nat) : Int) == 0) = false := by simp; omega
        by_cases h60 : s[q].toNat = 60
        · have heq : (((s[q].toNat : Nat) : Int) == 60) = true := by simp; omega
          have HE := hid (show ValBad s p from .inr ⟨H34.out, fun q2 h => by
            have := h.same (ST.out.found hq (by unfold valT; rw [h60]; rfl))
            subst this
            rintro ⟨_, e⟩
            omega⟩)
          generalize s[q].toNat = ch at *
          clear ST H34
          go_wp2_with fail
          simp only [Exit.jump]
          go_ret2
          exact ValPost.bad HE.out HB2.out
        · have hneq : (((s[q].toNat : Nat) : Int) == 60) = false := by simp; omega
          by_cases h34 : s[q].toNat = 34
          · have heq : (((s[q].toNat : Nat) : Int) == 34) = true := by simp; omega
            have HE := hid (ST.out.found hq (by unfold valT; rw [h34]; rfl))
            have HE4 := hid (show ∃ h : q < s.size, s[q].toNat = 34 from ⟨hq, h34⟩)
            have ST2 := hid (ST.out.rdt.next HR2.out HK2.out)
            have CP := hid (cPiece g s (q + 1) (p + 1) tx v w2 HR2.out (by have := ST.out.ge; omega) (by omega) (by omega))
            have HEX := hid (show pieceS s (p + 1) (q + 1) = s.extract (p + 1) q from rfl)
            rw [HEX.out] at CP
            have hpz : (s.extract (p + 1) q).size ≤ 1048576 := by rw [ByteArray.size_extract]; omega
            have CU := hid (fun wx => show Calls Tryz.prog 165 #[.string (s.extract (p + 1) q)] wx fun e w' => e = .returned (.tuple #[.string (unS (s.extract (p + 1) q)), .bool (unescL (s.extract (p + 1) q).data.toList).isSome]) ∧ Below wx.heap.size wx w' from c_impl_Unescaped (s.extract (p + 1) q) wx hpz)
            generalize s[q].toNat = ch at *
            have HPO := hid (fun w' (hr : RdT w' B g s (q + 1) (p + 1) tx v es) (hb : KeepB (fun k => k = g) w w') => ValPost.good (B := B) (g := g) (tx := tx) (v := v) (es := es) H34.out HE.out HE4.out hr hb)
            clear ST H34 HE HE4 hpz
            generalize unS (s.extract (p + 1) q) = U at *
            generalize (unescL (s.extract (p + 1) q).data.toList).isSome = OK at *
            generalize s.extract (p + 1) q = X at *
            go_wp2_with fail
            refine CP.out.mono ?_
            rintro e w3 ⟨rfl, hb3⟩
            have HB3 := hid hb3
            clear hb3 CP
            go_wp2_with fail
            refine (CU.out _).mono ?_
            rintro e w4 ⟨rfl, hb4⟩
            have HB4 := hid (bb HB3.out hb4)
            clear hb4 CU
            have HFI := hid (HPO.out w4 (ST2.out.below HB4.out) (HB2.out.trans (KeepB.of_below _ HB4.out)))
            go_wp2_with fail
            simp only [Exit.jump]
            go_ret2
            exact HFI.out
          · have hneq2 : (((s[q].toNat : Nat) : Int) == 34) = false := by simp; omega
            have STN := hid (ST.out.more hq (by unfold valT; simp; omega) HR2.out HK2.out)
            have HMU := hid (ST.out.less STN.out)
            generalize s[q].toNat = ch at *
            clear ST
            go_wp2_with fail
            go_step3
            exact ⟨rfl, q + 1, _, _, _, _, _, _, _, _, _, _, _, _, _, _, _, _, _, rfl, STN.out⟩
      · have HE := hid (show ValBad s p from .inr ⟨H34.out, fun q2 h => by
          obtain ⟨hq2, ht2⟩ := h.2.1
          have := ST.out.no q2 hq2 h.1 (by have := ST.out.le; omega)
          rw [this] at ht2
          cases ht2⟩)
        have HSG := hid (show sgnAt s q = 0 by unfold sgnAt; rw [dif_neg hq])
        rw [HSG.out]
        clear ST H34
        go_wp2_with fail
        simp only [Exit.jump]
        go_ret2
        exact ValPost.bad HE.out HB2.out
    · rintro a' w1 ⟨q, u4, u5, u6, u7, u8, u9, u10, u11, u12, u13, u14, u15, u16, u17, u18, u19, u20, rfl, ST⟩
      clear CN0 h34p
      have CN := hid (cNext g s q (p + 1) tx v w1 ST.out.rdt.rdr (by have := ST.out.le; omega) (by omega))
      go_wp2_with fail
      refine CN.out.mono ?_
      rintro e w2 ⟨rfl, hr2, hk2⟩
      have HR2 := hid hr2
      have HK2 := hid hk2
      have HB2 := hid (ST.out.bel.trans HK2.out)
      clear hr2 hk2 CN
      by_cases hq : q < s.size
      · have HSG := hid (show sgnAt s q = s[q].toNat by unfold sgnAt; rw [dif_pos hq])
        have hz := h0 q hq
        rw [HSG.out]
        have hne0 : (((s[q].toNat : Nat) : Int) == 0) = false := by simp; omega
        by_cases h60 : s[q].toNat = 60
        · have heq : (((s[q].toNat : Nat) : Int) == 60) = true := by simp; omega
          have HE := hid (show ValBad s p from .inr ⟨H34.out, fun q2 h => by
            have := h.same (ST.out.found hq (by unfold valT; rw [h60]; rfl))
            subst this
            rintro ⟨_, e⟩
            omega⟩)
          generalize s[q].toNat = ch at *
          clear ST H34
          go_wp2_with fail
          simp only [Exit.jump]
          go_ret2
          exact ValPost.bad HE.out HB2.out
        · have hneq : (((s[q].toNat : Nat) : Int) == 60) = false := by simp; omega
          by_cases h34 : s[q].toNat = 34
          · have heq : (((s[q].toNat : Nat) : Int) == 34) = true := by simp; omega
            have HE := hid (ST.out.found hq (by unfold valT; rw [h34]; rfl))
            have HE4 := hid (show ∃ h : q < s.size, s[q].toNat = 34 from ⟨hq, h34⟩)
            have ST2 := hid (ST.out.rdt.next HR2.out HK2.out)
            have CP := hid (cPiece g s (q + 1) (p + 1) tx v w2 HR2.out (by have := ST.out.ge; omega) (by omega) (by omega))
            have HEX := hid (show pieceS s (p + 1) (q + 1) = s.extract (p + 1) q from rfl)
            rw [HEX.out] at CP
            have hpz : (s.extract (p + 1) q).size ≤ 1048576 := by rw [ByteArray.size_extract]; omega
            have CU := hid (fun wx => show Calls Tryz.prog 165 #[.string (s.extract (p + 1) q)] wx fun e w' => e = .returned (.tuple #[.string (unS (s.extract (p + 1) q)), .bool (unescL (s.extract (p + 1) q).data.toList).isSome]) ∧ Below wx.heap.size wx w' from c_impl_Unescaped (s.extract (p + 1) q) wx hpz)
            generalize s[q].toNat = ch at *
            have HPO := hid (fun w' (hr : RdT w' B g s (q + 1) (p + 1) tx v es) (hb : KeepB (fun k => k = g) w w') => ValPost.good (B := B) (g := g) (tx := tx) (v := v) (es := es) H34.out HE.out HE4.out hr hb)
            clear ST H34 HE HE4 hpz
            generalize unS (s.extract (p + 1) q) = U at *
            generalize (unescL (s.extract (p + 1) q).data.toList).isSome = OK at *
            generalize s.extract (p + 1) q = X at *
            go_wp2_with fail
            refine CP.out.mono ?_
            rintro e w3 ⟨rfl, hb3⟩
            have HB3 := hid hb3
            clear hb3 CP
            go_wp2_with fail
            refine (CU.out _).mono ?_
            rintro e w4 ⟨rfl, hb4⟩
            have HB4 := hid (bb HB3.out hb4)
            clear hb4 CU
            have HFI := hid (HPO.out w4 (ST2.out.below HB4.out) (HB2.out.trans (KeepB.of_below _ HB4.out)))
            go_wp2_with fail
            simp only [Exit.jump]
            go_ret2
            exact HFI.out
          · have hneq2 : (((s[q].toNat : Nat) : Int) == 34) = false := by simp; omega
            have STN := hid (ST.out.more hq (by unfold valT; simp; omega) HR2.out HK2.out)
            have HMU := hid (ST.out.less STN.out)
            generalize s[q].toNat = ch at *
            clear ST
            go_wp2_with fail
            go_step3
            exact ⟨rfl, ⟨q + 1, _, _, _, _, _, _, _, _, _, _, _, _, _, _, _, _, _, rfl, STN.out⟩, HMU.out⟩
      · have HE := hid (show ValBad s p from .inr ⟨H34.out, fun q2 h => by
          obtain ⟨hq2, ht2⟩ := h.2.1
          have := ST.out.no q2 hq2 h.1 (by have := ST.out.le; omega)
          rw [this] at ht2
          cases ht2⟩)
        have HSG := hid (show sgnAt s q = 0 by unfold sgnAt; rw [dif_neg hq])
        rw [HSG.out]
        clear ST H34
        go_wp2_with fail
        simp only [Exit.jump]
        go_ret2
        exact ValPost.bad HE.out HB2.out
  · have HE := hid (show ValBad s p from .inl h34p)
    obtain ⟨SG, hSG⟩ : ∃ SG, sgnAt s p = SG := ⟨_, rfl⟩
    have hne : ¬ SG = 34 := by
      rw [← hSG]
      unfold sgnAt
      split
      · rename_i hlt
        exact fun e => h34p ⟨hlt, e⟩
      · decide
    have hne2 : (((SG : Nat) : Int) != 34) = true := by simp; omega
    rw [hSG] at CN0
    refine wp_scope_straight ?_
    clear h34p hSG
    go_wp2_with fail
    refine CN0.out.mono ?_
    rintro e w0 ⟨rfl, hr0, hk0⟩
    have HB0 := hid hk0
    clear hr0 hk0 CN0
    go_wp2_with fail
    simp only [Exit.noGoto]
    go_ret2
    exact ValPost.bad HE.out HB0.out

end Go.Proofs.YteninofjeidljaaGreat
